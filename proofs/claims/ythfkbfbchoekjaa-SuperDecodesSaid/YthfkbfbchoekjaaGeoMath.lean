/- Where the parts of a geometry stand, as numbers. -/
import Derived.Laws.BitsAllLaws
namespace Go.Proofs.Ythfkbfbchoekjaa
namespace Geo

/-- a block's bytes that may be -/
def Sz (s : Int) : Prop := s = 64 ∨ s = 128 ∨ s = 256 ∨ s = 512 ∨ s = 1024 ∨ s = 2048 ∨ s = 4096
instance (s : Int) : Decidable (Sz s) := by unfold Sz; infer_instance
/-- numbers that may be -/
def Num (n m s : Int) : Prop := (1 ≤ n ∧ n ≤ 65534) ∧ (1 ≤ m ∧ m ≤ 65534) ∧ Sz s
instance (n m s : Int) : Decidable (Num n m s) := by unfold Num; infer_instance
/-- so many words, and those that fill the line -/
def lines (c : Int) : Int := (c + 7) / 8 * 8
/-- where the bitmap begins -/
def bmAt (n m : Int) : Int := 16 + m * 8 + lines n
/-- where the blocks begin -/
def bkAt (n m : Int) : Int := bmAt n m + lines ((n + 63) / 64)
/-- where they end -/
def fin (n m s : Int) : Int := bkAt n m + n * (s / 8)
/-- whether it may be -/
def may (n m s : Int) : Bool := decide (Num n m s ∧ fin n m s ≤ 4194304)
/-- how many parts of a length hold so many -/
def prt (c e : Int) : Int := c / e + if c % e = 0 then 0 else 1

theorem prt8 (c : Int) : prt c 8 * 8 = lines c := by
  unfold prt lines
  split <;> omega
theorem prt64 (c : Int) : prt c 64 = (c + 63) / 64 := by
  unfold prt
  split <;> omega
theorem Sz.bounds {s : Int} (h : Sz s) : 64 ≤ s ∧ s ≤ 4096 ∧ 8 ≤ s / 8 ∧ s / 8 ≤ 512 ∧ s / 8 * 8 = s := by
  rcases h with rfl | rfl | rfl | rfl | rfl | rfl | rfl <;> decide
theorem bm_bounds {n m : Int} (h1 : 1 ≤ n ∧ n ≤ 65534) (h2 : 1 ≤ m ∧ m ≤ 65534) : 16 + m * 8 + n ≤ bmAt n m ∧ bmAt n m ≤ 16 + m * 8 + n + 7 ∧ bmAt n m ≤ 600000 ∧ bmAt n m % 8 = 0 := by
  unfold bmAt lines
  omega
theorem bk_bounds {n m : Int} (h1 : 1 ≤ n ∧ n ≤ 65534) (h2 : 1 ≤ m ∧ m ≤ 65534) : bmAt n m + (n + 63) / 64 ≤ bkAt n m ∧ bkAt n m ≤ bmAt n m + (n + 63) / 64 + 7 ∧ bkAt n m ≤ 610000 ∧ bkAt n m % 8 = 0 ∧ 0 ≤ bkAt n m := by
  have := bm_bounds h1 h2
  unfold bkAt lines
  omega
theorem mul_bounds {i q a b : Int} (h1 : 0 ≤ i) (h2 : i ≤ a) (h3 : 0 ≤ q) (h4 : q ≤ b) : 0 ≤ i * q ∧ i * q ≤ a * b :=
  ⟨Int.mul_nonneg h1 h3, Int.mul_le_mul h2 h4 h3 (Int.le_trans h1 h2)⟩
theorem fin_bounds {n m s : Int} (h1 : 1 ≤ n ∧ n ≤ 65534) (h2 : 1 ≤ m ∧ m ≤ 65534) (h3 : Sz s) : 0 ≤ fin n m s ∧ fin n m s ≤ 40000000 ∧ 0 ≤ n * (s / 8) ∧ n * (s / 8) ≤ 33553408 := by
  have hs := h3.bounds
  have h4 := mul_bounds (i := n) (a := 65534) (q := s / 8) (b := 512) (by omega) (by omega) (by omega) (by omega)
  have h5 := bk_bounds h1 h2
  unfold fin
  omega
theorem may_num {n m s : Int} (h : may n m s = true) : Num n m s ∧ fin n m s ≤ 4194304 := of_decide_eq_true h
theorem may_yes {n m s : Int} (h : Num n m s ∧ fin n m s ≤ 4194304) : may n m s = true := decide_eq_true h
theorem may_no {n m s : Int} (h : ¬ (Num n m s ∧ fin n m s ≤ 4194304)) : may n m s = false := decide_eq_false h
theorem may_neg {n m s : Int} (h : may n m s = false) : ¬ (Num n m s ∧ fin n m s ≤ 4194304) := of_decide_eq_false h

theorem prt_bounds {c e : Int} (h : 0 ≤ c) (he : 0 < e) : 0 ≤ c / e ∧ c / e ≤ c := ⟨Int.ediv_nonneg h (by omega), Int.ediv_le_self _ h⟩

theorem and_size' : ∀ (a : Fin 65) (b : Fin 64), (Nat.land (64 * a.val + b.val) (64 * a.val + b.val - 1) = 0 ↔ 64 * a.val + b.val < 64 ∧ Nat.land b.val (b.val - 1) = 0 ∨ (64 * a.val + b.val = 64 ∨ 64 * a.val + b.val = 128 ∨ 64 * a.val + b.val = 256 ∨ 64 * a.val + b.val = 512 ∨ 64 * a.val + b.val = 1024 ∨ 64 * a.val + b.val = 2048 ∨ 64 * a.val + b.val = 4096)) := by decide +kernel
end Geo
end Go.Proofs.Ythfkbfbchoekjaa
