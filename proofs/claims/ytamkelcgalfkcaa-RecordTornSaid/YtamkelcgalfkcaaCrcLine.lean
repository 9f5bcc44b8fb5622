/- Words one of whose bits is turned, and that the sums tell it. -/
import Derived.Test.YtamkelcgalfkcaaCrcTurn
namespace Go.Proofs.Ytamkelcgalfkcaa
open Go.RowKit Go.MapKept
namespace Crc

theorem le_word {x : Nat} (h : x < 18446744073709551616) (r : List Nat) : le (wb x ++ r) = x + 18446744073709551616 * le r := by
  have e : wb x = [x % 256, x / 256 % 256, x / 65536 % 256, x / 16777216 % 256, x / 4294967296 % 256, x / 1099511627776 % 256, x / 281474976710656 % 256, x / 72057594037927936 % 256] := by
    simp [wb, List.range_succ]
  rw [e]
  simp only [List.cons_append, List.nil_append, le]
  omega

theorem word_xor {x : Nat} (h : x < 18446744073709551616) (y : Nat) : x + 18446744073709551616 * y = x ^^^ y * 2 ^ 64 := by
  apply Nat.eq_of_testBit_eq
  intro i
  have e : (x + 18446744073709551616 * y).testBit i = if i < 64 then x.testBit i else y.testBit (i - 64) := by
    rw [Nat.add_comm]
    exact Nat.testBit_two_pow_mul_add y (i := 64) h i
  rw [e, Nat.testBit_xor, Nat.testBit_mul_two_pow]
  by_cases h1 : i < 64
  · simp [h1, Nat.not_le.2 h1]
  · have h2 : x.testBit i = false := Nat.testBit_lt_two_pow (Nat.lt_of_lt_of_le h (Nat.pow_le_pow_right (n := 2) (by omega) (by omega : 64 ≤ i)))
    simp [h1, h2, Nat.not_lt.1 h1]

theorem turned_lt {x t : Nat} (h : x < 18446744073709551616) (ht : t < 64) : x ^^^ 2 ^ t < 18446744073709551616 := Nat.xor_lt_two_pow (n := 64) h (Nat.pow_lt_pow_right (by omega) ht)

/-- one bit of a word turned -/
theorem le_turned (l : List Nat) : ∀ j t, (∀ x ∈ l, x < 18446744073709551616) → j < l.length → t < 64 → le (wflat (l.set j (l[j]?.getD 0 ^^^ 2 ^ t))) = le (wflat l) ^^^ 2 ^ (64 * j + t) := by
  induction l with
  | nil => intro j t _ h; simp at h
  | cons x l ih =>
    intro j t h hj ht
    have hx := h x (List.mem_cons_self ..)
    have e : ∀ (y : Nat) (r : List Nat), wflat (y :: r) = wb y ++ wflat r := fun y r => by simp [wflat]
    cases j with
    | zero =>
      rw [List.set_cons_zero, List.getElem?_cons_zero, Option.getD_some, e, e, le_word hx, le_word (turned_lt hx ht), word_xor hx, word_xor (turned_lt hx ht), Nat.mul_zero, Nat.zero_add, Nat.xor_assoc, Nat.xor_assoc, Nat.xor_comm (2 ^ t)]
    | succ j =>
      rw [List.length_cons] at hj
      have e2 := ih j t (fun y hy => h y (List.mem_cons_of_mem _ hy)) (by omega) ht
      rw [List.set_cons_succ, List.getElem?_cons_succ, e, e, le_word hx, le_word hx, e2, word_xor hx, word_xor hx, Nat.xor_assoc]
      congr 1
      have e3 : 2 ^ (64 * (j + 1) + t) = 2 ^ (64 * j + t) * 2 ^ 64 := by rw [← Nat.pow_add]; congr 1; omega
      rw [e3]
      apply Nat.eq_of_testBit_eq
      intro i
      simp only [Nat.testBit_mul_two_pow, Nat.testBit_xor]
      by_cases h8 : 64 ≤ i <;> simp [h8]

theorem line_turned {l : List Nat} (h : ∀ x ∈ l, x < 18446744073709551616) {j t : Nat} (hj : j < l.length) (ht : t < 64) : Trn (wflat l) (64 * j + t) 1 1 (wflat (l.set j (l[j]?.getD 0 ^^^ 2 ^ t))) :=
  ⟨wflat_byt _, by rw [wflat_len, wflat_len, List.length_set], by decide, by rw [le_turned l j t h hj ht, Nat.one_mul], fun h => by cases h⟩

/-- a word's bit that is turned is told -/
theorem line_told32 {l : List Nat} (h : ∀ x ∈ l, x < 18446744073709551616) {j t : Nat} (hj : j < l.length) (ht : t < 64) : S32 (wflat (l.set j (l[j]?.getD 0 ^^^ 2 ^ t))) ≠ S32 (wflat l) :=
  (line_turned h hj ht).told32 (wflat_byt _) (by decide) (by rw [wflat_len]; omega) (by decide)
end Crc
end Go.Proofs.Ytamkelcgalfkcaa
