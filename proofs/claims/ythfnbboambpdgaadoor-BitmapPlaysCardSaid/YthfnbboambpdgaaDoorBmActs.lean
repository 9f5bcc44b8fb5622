/- The acts of BitmapPlays as they lie in memory, and whether they are few. -/
import Derived.Test.YthfnbboambpdgaaDoorBmSame
namespace Go.Proofs.YthfnbboambpdgaaDoor
open Go.RowKit Go.MapKept
namespace Bm
open Pack (Wds Nts)

/-- an act's values -/
structure ActV where
  k : Nat
  a : Int
  b : Int
  l : List Int
  c : Option Addr
  cap : Nat

def ActV.cells (v : ActV) : Array Value := #[.int .u8 (v.k : Int), .int .i64 v.a, .int .i64 v.b, .slice v.c v.l.length v.cap]

/-- an act lies at b, o -/
structure ActAt (w : World) (b o : Nat) (v : ActV) : Prop where
  lt : b < w.heap.size
  c0 : w.cell? ⟨b, o, none⟩ = some (.int .u8 (v.k : Int))
  c1 : w.cell? ⟨b, o + 1, none⟩ = some (.int .i64 v.a)
  c2 : w.cell? ⟨b, o + 2, none⟩ = some (.int .i64 v.b)
  c3 : w.cell? ⟨b, o + 3, none⟩ = some (.slice v.c v.l.length v.cap)
theorem ActAt.chg {w w' : World} {q b o : Nat} {v : ActV} (h : ActAt w b o v) (hc : Chg q w w') (hb : b ≠ q) : ActAt w' b o v :=
  ⟨Nat.lt_of_lt_of_le h.lt hc.size, (hc.cell (p := ⟨b, o, none⟩) h.lt hb).trans h.c0, (hc.cell (p := ⟨b, o + 1, none⟩) h.lt hb).trans h.c1, (hc.cell (p := ⟨b, o + 2, none⟩) h.lt hb).trans h.c2, (hc.cell (p := ⟨b, o + 3, none⟩) h.lt hb).trans h.c3⟩
theorem ActAt.keep {w w' : World} {b o : Nat} {v : ActV} (h : ActAt w b o v) (hb : Below w.heap.size w w') : ActAt w' b o v := h.chg (chg_of_below hb w.heap.size) (Nat.ne_of_lt h.lt)
theorem ActAt.drewN {w : World} {b o : Nat} {v : ActV} (h : ActAt w b o v) (k : Nat) : ActAt (w.drewN k) b o v := ⟨h.lt, h.c0, h.c1, h.c2, h.c3⟩
theorem act_new (w : World) (v : ActV) : ActAt (w.alloc (.cells #[.int .u8 (v.k : Int), .int .i64 v.a, .int .i64 v.b, .slice v.c v.l.length v.cap] 31)) w.heap.size 0 v :=
  ⟨by simp, Pack.alloc_cell _ _ _ _, Pack.alloc_cell _ _ _ _, Pack.alloc_cell _ _ _ _, Pack.alloc_cell _ _ _ _⟩

structure Acts (w : World) (A : Option Addr) (n : Nat) (f : Nat → ActV) : Prop where
  len : n ≤ 9223372036854775807
  at' : ∀ i, i < n → ∃ b o, A = some ⟨b, o, none⟩ ∧ ActAt w b (o + i * 4) (f i)
  nts : ∀ i, i < n → Nts w (f i).c (f i).l
  bnd : ∀ i, i < n → (f i).k < 256 ∧ (-9223372036854775808 ≤ (f i).a ∧ (f i).a ≤ 9223372036854775807) ∧ (-9223372036854775808 ≤ (f i).b ∧ (f i).b ≤ 9223372036854775807)

/-- few's answer -/
def FewAns (w : World) (r : Ending) (w' : World) : Prop := ∃ b, r = .returned (.bool b) ∧ Below w.heap.size w w'

section
variable {w : World}
set_option maxHeartbeats 1600000 in
set_option maxRecDepth 100000 in
theorem few_any (A : Option Addr) (n c : Nat) (f : Nat → ActV) (h : Acts w A n f) : Calls Tryd.prog 8 #[.slice A n c] w (FewAns w) := by
  have hn := h.len
  have H := Lib.hid h
  clear h
  go_enter Tryd.func8, Tryd.ntmps8
  go_wp2
  go_loopw [7] (fun i wr => ∃ m : Nat, m ≤ n ∧ i = .int .i64 (m : Int) ∧ Below w.heap.size w wr) (fun i _ => n - (intOf i).toNat)
  case atStart => exact ⟨0, Nat.zero_le _, rfl, Below.refl _ _⟩
  case round =>
    obtain ⟨m, hm, rfl, hbel⟩ := hrel
    by_cases hlt : m < n
    · obtain ⟨b, o, rfl, ha0⟩ := H.out.at' m hlt
      have hln := (H.out.nts m hlt).len
      have ha := ha0.keep hbel
      have a0 := ha.c0
      have a1 := ha.c1
      have a2 := ha.c2
      have a3 := ha.c3
      have HO := Lib.hid hbel
      have hi0 : (0 : Int) ≤ (m : Int) := by omega
      have hi1 : (m : Int) < (n : Int) := by omega
      clear hbel ha ha0
      generalize (f m).l.length = ln at *
      go_wp2
      · go_ret
        exact ⟨false, rfl, HO.out.alloc HO.out.size _⟩
      · exact ⟨⟨m + 1, by omega, by go_num, HO.out.alloc HO.out.size _⟩, by simp [intOf]; omega⟩
    · have HO := Lib.hid hbel
      clear hbel
      go_wp2
      go_ret
      exact ⟨_, rfl, HO.out⟩
end
end Bm
end Go.Proofs.YthfnbboambpdgaaDoor
