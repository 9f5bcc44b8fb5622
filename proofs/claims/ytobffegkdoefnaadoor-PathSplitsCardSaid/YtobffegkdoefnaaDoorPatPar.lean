/- A path's parent: a row of the call's own. -/
import Derived.Test.YtobffegkdoefnaaDoorPatOrd
import Derived.Laws.IdiomCopy
import Derived.Lib.LazyBuf
namespace Go.Proofs.YtobffegkdoefnaaDoor
open Go.RowKit Go.MapKept Go.Lib
namespace Pat

/-- a row of names of the call's own, in block g -/
def Own (w : World) (g : Nat) (l : List ByteArray) : Prop := w.rowIs g 9 l.length (fun i => .string (l.getD i ByteArray.empty))
theorem Own.txs {w : World} {g : Nat} {l : List ByteArray} (h : Own w g l) (hs : ∀ s ∈ l, s.size ≤ 9223372036854775807) (hl : l.length ≤ 9223372036854775807) : Txs w (some ⟨g, 0, none⟩) l :=
  ⟨hs, hl, fun j hj => ⟨g, 0, rfl, World.rowIs.lt h, by
    rw [Nat.zero_add, World.rowIs.cell h hj, List.getD_eq_getElem?_getD, List.getElem?_eq_getElem hj, Option.getD_some]⟩⟩
theorem Own.keep {w w' : World} {g N : Nat} {l : List ByteArray} (h : Own w g l) (hb : Below N w w') (hg : g < N) : Own w' g l := World.rowIs.of_block h (hb.block g hg)
theorem Own.set {w : World} {g : Nat} {l : List ByteArray} (h : Own w g l) (k : Nat) (s : ByteArray) : Own (w.setCell ⟨g, k, none⟩ (.string s)) g (l.set k s) := by
  have h1 := World.rowIs.set h k (.string s)
  unfold Own
  rw [List.length_set]
  refine h1.congr (fun j hj => ?_)
  by_cases e : j = k
  · subst e
    rw [if_pos rfl, List.getD_eq_getElem?_getD, List.getElem?_set_self hj, Option.getD_some]
  · rw [if_neg e, List.getD_eq_getElem?_getD, List.getD_eq_getElem?_getD, List.getElem?_set_ne (fun h => e h.symm)]

theorem kid_at {m : List ByteArray} {s : ByteArray} : (m ++ [s])[m.length]'(by simp) = s := by simp

set_option maxRecDepth 100000 in
set_option maxHeartbeats 1000000 in
theorem parent_yes (w : World) (A : Option Addr) (c n k : Nat) (m : List ByteArray) (s : ByteArray) (h : Txs w A (m ++ [s])) (hk : m.length = k) (hn : n = k + 1) (hm : k ≤ 1000000) :
    Calls Tryd.prog 10 #[.slice A n c] w fun e w' => ∃ g, e = .returned (.tuple #[.slice (some ⟨g, 0, none⟩) k k, .string s, .bool true]) ∧ w.heap.size ≤ g ∧ Own w' g m ∧ Below w.heap.size w w' := by
  subst hk
  have hmk := run_make_row' (P := Tryd.prog) 22 9 _ 16 Tryd.underlying22 str_info rfl .i64 .i64 m.length (by omega) (by omega) w
  have hr1 := World.rowIs_made w (.string ByteArray.empty) m.length 9
  have hb1 := (Below.refl w.heap.size w).alloc (Nat.le_refl _) (.cells (madeCells #[.string ByteArray.empty] m.length) 9)
  obtain ⟨b, o, hA, hlt, hc⟩ := h.at' m.length (by simp)
  rw [kid_at] at hc
  subst hA
  have hcp := run_copy_cells (P := Tryd.prog) (w.alloc (.cells (madeCells #[.string ByteArray.empty] m.length) 9)) 22 22 3 9 w.heap.size 0 m.length m.length ⟨b, o, none⟩ n c (strs m)
    Tryd.underlying22 (by kernel_rfl) (by rw [hn]; simp [strs])
    (fun j v hj => by
      have hjl : j < m.length := by
        have := (List.getElem?_eq_some_iff.1 hj).1
        simpa [strs] using this
      obtain ⟨b', o', e, hlt', hc'⟩ := (h.alloc (.cells (madeCells #[.string ByteArray.empty] m.length) 9)).at' j (by simp; omega)
      injection e with e
      injection e with e1 e2
      subst e1 e2
      rw [Go.WideShapes.add_plain, hc', ← hj]
      simp [strs, List.getElem_append_left hjl, List.getElem?_eq_getElem hjl])
    (fun j hj => by
      have hjl : j < m.length := by simpa [strs] using hj
      rw [Nat.zero_add, hr1.cell hjl]; rfl)
    (fun j hj => hr1.frozen _) (strs_one m)
  have hr2 : Own ((w.alloc (.cells (madeCells #[.string ByteArray.empty] m.length) 9)).setCells w.heap.size 0 (strs m)) w.heap.size m :=
    (rowIs_setCells (strs m) 0 (w.alloc (.cells (madeCells #[.string ByteArray.empty] m.length) 9)) _ hr1).congr (fun j hj => by
      rw [if_pos ⟨Nat.zero_le _, by simpa [strs] using hj⟩]
      simp [strs, List.getElem?_eq_getElem hj])
  have hb2 := below_setCells (b := w.heap.size) (Nat.le_refl _) (strs m) 0 _ hb1
  have hcw := (hb2.cell (p := ⟨b, o + m.length, none⟩) hlt).trans hc
  have hlen : (strs m).length = m.length := by simp [strs]
  rw [hlen] at hcp
  have HO := Lib.hid hr2
  have HB := Lib.hid hb2
  have hsub : (n : Int) - 1 = (m.length : Int) := by omega
  have hn0 : ((n : Int) == 0) = false := beq_eq_false_iff_ne.2 (by omega)
  have hn1 : ¬ (n : Int) = 0 := by omega
  have hi0 : (0 : Int) ≤ (m.length : Int) := by omega
  have hi1 : (m.length : Int) < (n : Int) := by omega
  clear h hr1 hr2 hb1 hb2 hn hlen hc
  generalize w.heap.size = g at *
  generalize w.alloc (.cells (madeCells #[.string ByteArray.empty] m.length) 9) = w1 at *
  generalize w1.setCells g 0 (strs m) = w2 at *
  go_enter Tryd.func10, Tryd.ntmps10
  go_wp2
  go_quiet (fail)
  go_wp2
  refine bodyPost_ret (v := .tuple #[.slice (some ⟨g, 0, none⟩) m.length m.length, .string s, .bool true]) ?_ rfl ⟨g, rfl, Nat.le_refl _, HO.out, below_drewN HB.out _⟩
  simp [results, Tryd.results10, go_sem]

set_option maxHeartbeats 1000000 in
theorem parent_no (w : World) (A : Option Addr) (c : Nat) :
    Calls Tryd.prog 10 #[.slice A 0 c] w fun e w' => e = .returned (.tuple #[.slice none 0 0, .string ByteArray.empty, .bool false]) ∧ w' = w := by
  go_enter Tryd.func10, Tryd.ntmps10
  go_wp2
  refine bodyPost_ret (v := .tuple #[.slice none 0 0, .string ByteArray.empty, .bool false]) ?_ rfl ⟨rfl, rfl⟩
  simp [results, Tryd.results10, go_sem]
  rfl
end Pat
end Go.Proofs.YtobffegkdoefnaaDoor
