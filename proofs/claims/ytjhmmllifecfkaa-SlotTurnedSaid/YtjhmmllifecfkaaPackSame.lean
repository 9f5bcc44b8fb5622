/- Words that are the same; the document's word of fields. -/
import Derived.Test.YtjhmmllifecfkaaPackLives
import Derived.Deep.QuietTactic
import Derived.BigQuiet
namespace Go.Proofs.Ytjhmmllifecfkaa
open Go.RowKit Go.MapKept
namespace Pack

theorem below_drewN {B : Nat} {a w : World} (h : Below B a w) (n : Nat) : Below B a (w.drewN n) := ⟨h.os, h.tape, h.output, h.size, h.block⟩

theorem cell_eq {w w' : World} {n : Nat} (h : w' = w.drewN n) {a : Addr} {v : Option Value} (hc : w.cell? a = v) : w'.cell? a = v := by
  rw [h]
  exact hc

theorem field_lt (x v t q : Nat) (hx : x < 2 ^ t) (hv : v < 2 ^ q) (ht : t + q ≤ 64) : x + v * 2 ^ t < 18446744073709551616 := by
  have h1 : x + v * 2 ^ t < 2 ^ q * 2 ^ t := calc
    x + v * 2 ^ t < 2 ^ t + v * 2 ^ t := Nat.add_lt_add_right hx _
    _ = (v + 1) * 2 ^ t := by rw [Nat.add_mul, Nat.one_mul, Nat.add_comm]
    _ ≤ 2 ^ q * 2 ^ t := Nat.mul_le_mul_right _ hv
  rw [← Nat.pow_add] at h1
  exact Nat.lt_of_lt_of_le h1 (Nat.pow_le_pow_right (n := 2) (j := 64) (by omega) (by omega))

section
variable {w : World}
end
end Pack
end Go.Proofs.Ytjhmmllifecfkaa
