/- Words are counted: what GeometryApart's counts are, and what marking does to them. -/
import Derived.Test.YtoagfpjaaiodgaaGeoLives
import Derived.Deep.OwnRows
namespace Go.Proofs.Ytoagfpjaaiodgaa
open Go.RowKit Go.MapKept
namespace Geo

/-- one more for each of the words from a on, ahead of z -/
def add (cnt : Nat → Nat) (a z : Nat) (j : Nat) : Nat := cnt j + if a ≤ j ∧ j < z then 1 else 0

/-- the geometry in block b, the counts' slice in block c, the counts in block A; what was there ahead of N is as it was -/
structure St (w0 : World) (N b c A L : Nat) (n m s : Int) (cnt : Nat → Nat) (w : World) : Prop where
  box : Box w b n m s
  clt : c < w.heap.size
  cc : w.cell? ⟨c, 0, none⟩ = some (.slice (some ⟨A, 0, none⟩) L L)
  row : w.rowIs A 3 L (fun j => .int .i64 (cnt j : Int))
  bA : b ≠ A
  cA : c ≠ A
  below : Below N w0 w
  nA : N ≤ A

theorem St.congr {w0 w : World} {N b c A L : Nat} {n m s : Int} {cnt cnt' : Nat → Nat} (h : St w0 N b c A L n m s cnt w) (e : ∀ j, j < L → cnt j = cnt' j) : St w0 N b c A L n m s cnt' w :=
  ⟨h.box, h.clt, h.cc, h.row.congr (fun j hj => by rw [e j hj]), h.bA, h.cA, h.below, h.nA⟩
theorem St.keep {w0 w w' : World} {N b c A L : Nat} {n m s : Int} {cnt : Nat → Nat} (h : St w0 N b c A L n m s cnt w) (hb : Below w.heap.size w w') (hN : N ≤ w.heap.size) : St w0 N b c A L n m s cnt w' :=
  ⟨h.box.keep hb, Nat.lt_of_lt_of_le h.clt hb.size, (hb.cell (p := ⟨c, 0, none⟩) h.clt).trans h.cc, h.row.of_block (hb.block _ h.row.lt), h.bA, h.cA, h.below.trans (hb.mono hN), h.nA⟩
theorem St.drew {w0 w : World} {N b c A L : Nat} {n m s : Int} {cnt : Nat → Nat} (h : St w0 N b c A L n m s cnt w) : St w0 N b c A L n m s cnt w.drew :=
  ⟨h.box.drew, h.clt, h.cc, h.row.drew, h.bA, h.cA, h.below.drew, h.nA⟩
theorem cell_set_other {w : World} {p q : Addr} (h : p.block ≠ q.block) (v : Value) : (w.setCell q v).cell? p = w.cell? p := World.cell?_of_block (w := w) (Below.heap_setCell w q v p.block h)
theorem St.set {w0 w : World} {N b c A L : Nat} {n m s : Int} {cnt : Nat → Nat} (h : St w0 N b c A L n m s cnt w) (i x : Nat) : St w0 N b c A L n m s (fun j => if j = i then x else cnt j) (w.setCell ⟨A, i, none⟩ (.int .i64 (x : Int))) :=
  ⟨⟨by simpa using h.box.lt, (cell_set_other h.bA _).trans h.box.c0, (cell_set_other h.bA _).trans h.box.c1, (cell_set_other h.bA _).trans h.box.c2⟩,
   by simpa using h.clt, (cell_set_other h.cA _).trans h.cc,
   (h.row.set i (.int .i64 (x : Int))).congr (fun j _ => by split <;> rfl), h.bA, h.cA, h.below.setCell h.nA _, h.nA⟩

theorem add_step (cnt : Nat → Nat) (a z : Nat) (h : a ≤ z) (j : Nat) : (if j = z then add cnt a z z + 1 else add cnt a z j) = add cnt a (z + 1) j := by
  unfold add
  by_cases h' : j = z
  · subst h'
    rw [if_pos rfl, if_neg (by omega), if_pos (by omega)]
  · rw [if_neg h']
    by_cases h2 : a ≤ j ∧ j < z
    · rw [if_pos h2, if_pos (by omega)]
    · rw [if_neg h2, if_neg (by omega)]

set_option maxHeartbeats 1000000 in
theorem mark_any (w0 w : World) (N b c A L : Nat) (n m s : Int) (cnt : Nat → Nat) (h : St w0 N b c A L n m s cnt w) (hL : L ≤ 10000000) (a k : Nat) (ha : a + k ≤ L) (h8 : a % 8 = 0 ∨ k = 1) (hcnt : ∀ j, cnt j ≤ 5) :
    Calls Try.prog 22 #[.int .i64 (a : Int), .int .i64 (k : Int), .pointer (some ⟨c, 0, none⟩)] w fun r w' => r = .returned (.bool true) ∧ St w0 N b c A L n m s (add cnt a (a + k)) w' ∧ w.heap.size = w'.heap.size := by
  have H := Lib.hid h
  have HC := Lib.hid hcnt
  have H8 := Lib.hid h8
  clear h hcnt h8
  go_enter Try.func22, Try.ntmps22
  go_wp2
  go_loopw [6] (fun x wr => ∃ z : Nat, a ≤ z ∧ z ≤ a + k ∧ x = .int .i64 (z : Int) ∧ St w0 N b c A L n m s (add cnt a z) wr ∧ w.heap.size = wr.heap.size) (fun x _ => a + k - (intOf x).toNat)
  case atStart => exact ⟨a, Nat.le_refl _, by omega, rfl, H.out.congr (fun j _ => by unfold add; rw [if_neg (by omega)]; rfl), rfl⟩
  case round =>
    obtain ⟨z, hz, hi, rfl, hst, hsz⟩ := hrel
    have HS := Lib.hid hst
    have HZ := Lib.hid hsz
    clear hst hsz
    by_cases hlt : z < a + k
    · have hlt' : z < L := by omega
      have hcc := HS.out.cc
      have hrc := HS.out.row.cell hlt'
      have hrf := HS.out.row.frozen z
      have HA := Lib.hid (add_step cnt a z hz)
      have hle : add cnt a z z ≤ 6 := by have := HC.out z; unfold add; split <;> omega
      generalize add cnt a z z = y at *
      go_wp2
      go_roundw
      case rel =>
        refine ⟨z + 1, by omega, by omega, by go_num, ?_, ?_⟩
        · have := (HS.out.set z (y + 1)).congr (fun j _ => HA.out j)
          simpa using this
        · have := HZ.out
          simpa using this
      case measure => simp [intOf]; omega
    · obtain rfl : z = a + k := by omega
      rcases H8.out with h | h
      · have h' : ((a : Int) % 8 == 0) = true := by simp; omega
        go_wp2
        go_ret
        exact ⟨rfl, HS.out, HZ.out⟩
      · subst h
        by_cases h : a % 8 = 0
        · have h' : ((a : Int) % 8 == 0) = true := by simp; omega
          go_wp2
          go_ret
          exact ⟨rfl, HS.out, HZ.out⟩
        · have h' : ((a : Int) % 8 == 0) = false := by simp; omega
          go_wp2
          go_ret
          exact ⟨rfl, HS.out, HZ.out⟩
end Geo
end Go.Proofs.Ytoagfpjaaiodgaa
