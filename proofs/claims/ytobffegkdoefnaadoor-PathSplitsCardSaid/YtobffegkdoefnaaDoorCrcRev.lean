/- Bits the other way round: the sum that takes bits from the highest on. -/
import Derived.Test.YtobffegkdoefnaaDoorCrcMath
namespace Go.Proofs.YtobffegkdoefnaaDoor
namespace Crc

/-- so many bits, the other way round -/
def rev : Nat → Nat → Nat
  | 0, _ => 0
  | w + 1, x => 2 ^ w * (x % 2) + rev w (x / 2)

theorem rev_lt (w : Nat) : ∀ x, rev w x < 2 ^ w := by
  induction w with
  | zero => intro x; simp [rev]
  | succ w ih =>
    intro x
    have h1 := ih (x / 2)
    have h2 : x % 2 < 2 := Nat.mod_lt _ (by omega)
    simp only [rev]
    rw [Nat.pow_succ]
    rcases Nat.mod_two_eq_zero_or_one x with h | h <;> rw [h] <;> omega

theorem bit_rev (w : Nat) : ∀ x i, (rev w x).testBit i = (decide (i < w) && x.testBit (w - 1 - i)) := by
  induction w with
  | zero => intro x i; simp [rev]
  | succ w ih =>
    intro x i
    simp only [rev]
    rw [Nat.testBit_two_pow_mul_add _ (rev_lt w _), ih]
    by_cases h : i < w
    · have e : w + 1 - 1 - i = w - 1 - i + 1 := by omega
      have h1 : i < w + 1 := by omega
      rw [if_pos h, e, Nat.testBit_add_one]
      simp [h, h1]
    · rw [if_neg h]
      by_cases h1 : i = w
      · subst h1
        simp
      · have h2 : ¬ i < w + 1 := by omega
        have h3 : (x % 2).testBit (i - w) = false := Nat.testBit_lt_two_pow (Nat.lt_of_lt_of_le (Nat.mod_lt x (by omega)) (Nat.pow_le_pow_right (n := 2) (by omega) (by omega : 1 ≤ i - w)))
        simp [h2, h3]

theorem rev_xor (w x y : Nat) : rev w (x ^^^ y) = rev w x ^^^ rev w y := by
  apply Nat.eq_of_testBit_eq
  intro i
  simp only [bit_rev, Nat.testBit_xor]
  by_cases h : i < w <;> simp [h]

theorem rev_rev {w x : Nat} (hx : x < 2 ^ w) : rev w (rev w x) = x := by
  apply Nat.eq_of_testBit_eq
  intro i
  simp only [bit_rev]
  by_cases h : i < w
  · have h1 : w - 1 - i < w := by omega
    have e : w - 1 - (w - 1 - i) = i := by omega
    simp [h, h1, e]
  · have h1 : x.testBit i = false := Nat.testBit_lt_two_pow (Nat.lt_of_lt_of_le hx (Nat.pow_le_pow_right (n := 2) (by omega) (by omega : w ≤ i)))
    simp [h, h1]

theorem rev_inj {w x y : Nat} (hx : x < 2 ^ w) (hy : y < 2 ^ w) (h : rev w x = rev w y) : x = y := by
  rw [← rev_rev hx, h, rev_rev hy]

theorem rev_byte {b : Nat} (hb : b < 256) : rev 16 (rev 8 b) = b * 256 := by
  apply Nat.eq_of_testBit_eq
  intro i
  have e : b * 256 = b * 2 ^ 8 := rfl
  rw [e, Nat.testBit_mul_two_pow]
  simp only [bit_rev]
  by_cases h : i < 16
  · by_cases h1 : 8 ≤ i
    · have e1 : 8 - 1 - (16 - 1 - i) = i - 8 := by omega
      have h2 : 16 - 1 - i < 8 := by omega
      simp only [h, h1, h2, e1, decide_true, Bool.true_and]
    · have h2 : ¬ 16 - 1 - i < 8 := by omega
      simp only [h, h1, h2, decide_true, decide_false, Bool.true_and, Bool.false_and]
  · have h1 : b.testBit (i - 8) = false := Nat.testBit_lt_two_pow (Nat.lt_of_lt_of_le (show b < 2 ^ 8 from hb) (Nat.pow_le_pow_right (n := 2) (by omega) (by omega : 8 ≤ i - 8)))
    simp [h, h1]

theorem rev_half {q : Nat} (hq : q < 65536) : rev 16 q * 2 % 65536 = rev 16 (q / 2) := by
  apply Nat.eq_of_testBit_eq
  intro i
  have e0 : (65536 : Nat) = 2 ^ 16 := rfl
  have e1 : rev 16 q * 2 = rev 16 q * 2 ^ 1 := rfl
  rw [e0, Nat.testBit_mod_two_pow, e1, Nat.testBit_mul_two_pow]
  simp only [bit_rev]
  by_cases h : i < 16
  · rw [Nat.testBit_div_two]
    cases i with
    | zero =>
      have h1 : q.testBit 16 = false := Nat.testBit_lt_two_pow hq
      simp [h1]
    | succ i =>
      have h1 : i < 16 := by omega
      have e2 : 16 - 1 - i = 16 - 1 - (i + 1) + 1 := by omega
      simp [h, h1, e2]
  · simp [h]

theorem rev_top (q : Nat) : rev 16 q / 32768 = q % 2 := by
  have h := rev_lt 15 (q / 2)
  have e : rev 16 q = 2 ^ 15 * (q % 2) + rev 15 (q / 2) := rfl
  rw [e]
  have : (2 : Nat) ^ 15 = 32768 := rfl
  omega

def P16 : Nat := 33800

theorem step_rev {q : Nat} (hq : q < 65536) : rev 16 q * 2 % 65536 ^^^ (if q % 2 = 1 then 4129 else 0) = rev 16 (A P16 q) := by
  unfold A
  rw [rev_xor, rev_half hq]
  congr 1
  split <;> decide

theorem rev_bit : ∀ t, t < 8 → rev 8 (2 ^ (7 - t)) = 2 ^ t := by decide

/-- one bit of a byte turned, the other way round -/
theorem rev_turn {x t : Nat} (ht : t < 8) : rev 8 (x ^^^ 2 ^ (7 - t)) = rev 8 x ^^^ 2 ^ t := by rw [rev_xor, rev_bit t ht]
end Crc
end Go.Proofs.YtobffegkdoefnaaDoor
