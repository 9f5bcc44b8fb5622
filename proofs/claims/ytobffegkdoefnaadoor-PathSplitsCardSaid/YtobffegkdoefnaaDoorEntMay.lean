/- May, the program's and the document's; an entry in a block. -/
import Derived.Test.YtobffegkdoefnaaDoorEntRight
import Derived.Deep.OwnRows
namespace Go.Proofs.YtobffegkdoefnaaDoor
open Go.RowKit Go.MapKept
namespace Ent

/-- an entry lies in block b -/
structure Box (w : World) (b : Nat) (s : ByteArray) (i : Int) : Prop where
  lt : b < w.heap.size
  c0 : w.cell? ⟨b, 0, none⟩ = some (.string s)
  c1 : w.cell? ⟨b, 1, none⟩ = some (.int .i64 i)
theorem Box.keep {w w' : World} {b : Nat} {s : ByteArray} {i : Int} (h : Box w b s i) (hb : Below w.heap.size w w') : Box w' b s i :=
  ⟨Nat.lt_of_lt_of_le h.lt hb.size, (hb.cell (p := ⟨b, 0, none⟩) h.lt).trans h.c0, (hb.cell (p := ⟨b, 1, none⟩) h.lt).trans h.c1⟩
theorem Box.keepN {w w' : World} {b N : Nat} {s : ByteArray} {i : Int} (h : Box w b s i) (hb : Below N w w') (hN : b < N) : Box w' b s i :=
  ⟨Nat.lt_of_lt_of_le h.lt hb.size, (hb.cell (p := ⟨b, 0, none⟩) hN).trans h.c0, (hb.cell (p := ⟨b, 1, none⟩) hN).trans h.c1⟩
theorem Box.drew {w : World} {b : Nat} {s : ByteArray} {i : Int} (h : Box w b s i) : Box w.drew b s i := ⟨h.lt, h.c0, h.c1⟩
theorem boxed (w : World) (s : ByteArray) (i : Int) (t : TypeId) : Box (w.alloc (.cells #[.string s, .int .i64 i] t)) w.heap.size s i :=
  ⟨by simp, World.cell?_alloc_mark w _ t _ 0, World.cell?_alloc_mark w _ t _ 1⟩

/-- an entry of the call's own in block b -/
structure Own (w : World) (b : Nat) (s : ByteArray) (i : Int) : Prop where
  box : Box w b s i
  f : ∀ o, w.frozen? ⟨b, o, none⟩ = false
theorem Own.keep {w w' : World} {b : Nat} {s : ByteArray} {i : Int} (h : Own w b s i) (hb : Below w.heap.size w w') : Own w' b s i :=
  ⟨h.box.keep hb, fun o => (hb.frozen (p := ⟨b, o, none⟩) h.box.lt).trans (h.f o)⟩
theorem Own.drew {w : World} {b : Nat} {s : ByteArray} {i : Int} (h : Own w b s i) : Own w.drew b s i := ⟨h.box.drew, h.f⟩
theorem owned (w : World) (s : ByteArray) (i : Int) (t : TypeId) : Own (w.alloc (.cells #[.string s, .int .i64 i] t)) w.heap.size s i :=
  ⟨boxed w s i t, fun o => (World.rowIs_alloc w #[.string s, .int .i64 i] t (fun j => if j = 0 then .string s else .int .i64 i) (fun j hj => by
    have : j < 2 := hj
    match j, this with
    | 0, _ => rfl
    | 1, _ => rfl)).frozen o⟩

theorem ret_bool {a b : Bool} (h : a = true ↔ b = true) : Ending.returned (Value.bool a) = Ending.returned (Value.bool b) := by rw [Bool.eq_iff_iff.2 h]
theorem may_not {l : List Nat} {i : Int} (h : right l = false) : may l i = false := by
  unfold may
  rw [h]
  rfl
theorem may_right {l : List Nat} {i : Int} (h : right l = true) : may l i = decide (0 ≤ i ∧ i ≤ 65533) := by
  unfold may
  rw [h]
  rfl

set_option maxHeartbeats 1000000 in
theorem may_any (w : World) (s : ByteArray) (i : Int) (hs : s.size ≤ 9223372036854775807) :
    Calls Tryd.prog 34 #[.agg #[.string s, .int .i64 i]] w fun r w' => r = .returned (.bool (may (Crc.tx s) i)) ∧ Below w.heap.size w w' := by
  have HR := Lib.hid (fun w => right_any w s hs)
  cases hr : right (Crc.tx s) with
  | false =>
    have HM := Lib.hid (may_not (i := i) hr)
    have HT := Lib.hid hr
    clear hr
    go_enter Tryd.func34, Tryd.ntmps34
    go_wp2_with fail
    refine (HR.out _).mono ?_
    rintro e w' ⟨rfl, rfl⟩
    rw [HT.out]
    go_wp2
    go_ret
    exact ⟨by rw [HM.out]; rfl, (Below.refl _ _).alloc (Nat.le_refl _) _⟩
  | true =>
    have HM := Lib.hid (may_right (i := i) hr)
    have HT := Lib.hid hr
    clear hr
    go_enter Tryd.func34, Tryd.ntmps34
    go_wp2_with fail
    refine (HR.out _).mono ?_
    rintro e w' ⟨rfl, rfl⟩
    rw [HT.out]
    go_wp2
    all_goals go_ret
    all_goals refine ⟨?_, (Below.refl _ _).alloc (Nat.le_refl _) _⟩
    all_goals rw [HM.out]
    all_goals refine ret_bool ?_
    all_goals simp only [decide_eq_true_eq, Bool.false_eq_true, false_iff] at *
    all_goals omega

end Ent
end Go.Proofs.YtobffegkdoefnaaDoor
