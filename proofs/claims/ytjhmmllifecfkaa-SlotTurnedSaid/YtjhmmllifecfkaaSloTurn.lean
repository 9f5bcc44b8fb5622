/- Bits of a slot's word that are turned: as numbers. -/
import Derived.Test.YtjhmmllifecfkaaSloLives
import Derived.Test.YtjhmmllifecfkaaCrcTurn
namespace Go.Proofs.Ytjhmmllifecfkaa
open Go.RowKit Go.MapKept
namespace Slo
open Lin

theorem byte_turn (y j t i : Nat) (ht : t < 8) : (y ^^^ 2 ^ (8 * j + t)) / 256 ^ i % 256 = if i = j then (y / 256 ^ i % 256) ^^^ 2 ^ t else y / 256 ^ i % 256 := by
  have e1 : 256 ^ i = 2 ^ (8 * i) := by rw [Nat.pow_mul]
  have e2 : (256 : Nat) = 2 ^ 8 := rfl
  rw [e1, e2]
  apply Nat.eq_of_testBit_eq
  intro b
  by_cases hi : i = j
  · subst hi
    rw [if_pos rfl]
    simp only [Nat.testBit_mod_two_pow, Nat.testBit_div_two_pow, Nat.testBit_xor, Nat.testBit_two_pow]
    by_cases hb : b < 8
    · by_cases hbt : t = b
      · have : 8 * i + t = b + 8 * i := by omega
        simp [hb, hbt, Nat.add_comm]
      · have : ¬ 8 * i + t = b + 8 * i := by omega
        simp [hb, hbt, this]
    · have : ¬ t = b := by omega
      simp [hb, this]
  · rw [if_neg hi]
    simp only [Nat.testBit_mod_two_pow, Nat.testBit_div_two_pow, Nat.testBit_xor, Nat.testBit_two_pow]
    by_cases hb : b < 8
    · have : ¬ 8 * j + t = b + 8 * i := by omega
      simp [hb, this]
    · simp [hb]

theorem six_get {x k : Nat} (h : k < (six x).length) : (six x)[k] = x / 256 ^ k % 256 := by
  have h1 : k < ((Crc.wb x).take 6).length := h
  show ((Crc.wb x).take 6)[k]'h1 = _
  rw [List.getElem_take, Crc.wb_get]
theorem six_at {x k : Nat} (h : k < 6) : (six x)[k]?.getD 0 = x / 256 ^ k % 256 := by
  rw [List.getElem?_eq_getElem (by rw [six_len]; exact h)]
  exact six_get _

theorem six_turn (y j t : Nat) (hj : j < 6) (ht : t < 8) : six (y ^^^ 2 ^ (8 * j + t)) = (six y).set j ((six y)[j]?.getD 0 ^^^ 2 ^ t) := by
  refine List.ext_getElem (by rw [List.length_set, six_len, six_len]) (fun i h1 h2 => ?_)
  rw [six_get, byte_turn y j t i ht, List.getElem_set]
  by_cases h : i = j
  · subst h
    rw [if_pos rfl, if_pos rfl, six_at hj]
  · rw [if_neg h, if_neg (fun e => h e.symm)]
    have h3 : i < (six y).length := by rw [List.length_set] at h2; exact h2
    rw [six_get h3]

theorem top_turn (y p : Nat) (hp : p < 48) : (y ^^^ 2 ^ p) / 281474976710656 = y / 281474976710656 := by
  have e : (281474976710656 : Nat) = 2 ^ 48 := rfl
  rw [e]
  apply Nat.eq_of_testBit_eq
  intro b
  simp only [Nat.testBit_div_two_pow, Nat.testBit_xor, Nat.testBit_two_pow]
  have : ¬ p = b + 48 := by omega
  simp [this]

theorem six_low {x y : Nat} (h : y % 281474976710656 = x % 281474976710656) : six y = six x := by
  refine List.ext_getElem (by rw [six_len, six_len]) (fun i h1 h2 => ?_)
  rw [six_get, six_get]
  rw [six_len] at h1
  have : i = 0 ∨ i = 1 ∨ i = 2 ∨ i = 3 ∨ i = 4 ∨ i = 5 := by omega
  rcases this with rfl | rfl | rfl | rfl | rfl | rfl <;> simp only [Nat.pow_zero, Nat.reducePow] <;> omega

/-- a word's sum is its six bytes' -/
theorem wd_good {s c q : Nat} (hs : s < 65536) (hc : c < 65536) (hq : q < 65536) : wd s c q / 281474976710656 = Crc.S16 (six (wd s c q)) := by
  have h1 := nums_lt hs hc hq
  have h2 : six (wd s c q) = six (nums s c q) := six_low (by unfold wd; omega)
  rw [h2, show Crc.S16 (six (nums s c q)) = sum s c q from rfl]
  unfold wd
  omega
theorem bad_none {y : Nat} (h : y / 281474976710656 ≠ Crc.S16 (six y)) : dec y = none := by
  refine dec_none (fun s c q hm e => ?_)
  obtain ⟨h1, h2, h3, h4⟩ := may_lt hm
  exact h (by rw [e]; exact wd_good (by omega) (by omega) h4)

/-- behind i bits from bit f on: y is x with those of m turned -/
structure Bit (x f i m y : Nat) : Prop where
  t : Crc.Trn ((six x).map (Crc.rev 8)) f i m ((six y).map (Crc.rev 8))
  top : y / 281474976710656 = x / 281474976710656
  lt : y < 18446744073709551616
  zero : m = 0 → y = x
theorem Bit.refl {x : Nat} (f : Nat) (h : x < 18446744073709551616) : Bit x f 0 0 x := ⟨Crc.Trn.refl (Crc.Byt.rev8 _) f, rfl, h, fun _ => rfl⟩
theorem Bit.skip {x f i m y : Nat} (h : Bit x f i m y) : Bit x f (i + 1) m y := ⟨h.t.skip, h.top, h.lt, h.zero⟩
theorem Bit.turn {x f i m y k : Nat} (h : Bit x f i m y) (hk : k = f + i) (h48 : k < 48) : Bit x f (i + 1) (m ^^^ 2 ^ i) (y ^^^ 2 ^ (8 * (k / 8) + (7 - k % 8))) := by
  subst hk
  refine ⟨?_, (top_turn _ _ (by omega)).trans h.top, Nat.xor_lt_two_pow (n := 64) h.lt (Nat.pow_lt_pow_right (by omega) (by omega)), fun h0 => absurd h0 (Crc.bit_in h.t.lt).1⟩
  rw [six_turn _ _ _ (by omega) (by omega), Crc.map_set_rev _ _ _ (by omega)]
  exact h.t.turn (by rw [List.length_map, six_len]; omega)
theorem Bit.none {x f m y : Nat} (h : Bit x f 16 m y) (hx : x / 281474976710656 = Crc.S16 (six x)) (hf : f ≤ 48) (h0 : m ≠ 0) : dec y = none ∧ y ≠ x := by
  have ht := h.t.told16 (Nat.le_refl _) (by rw [six_len]; omega) h0
  exact ⟨bad_none (by rw [h.top, hx]; exact fun e => ht e.symm), fun e => ht (by rw [e])⟩

/-- the sum's bits -/
theorem sum_turn {x mask : Nat} (hx : x / 281474976710656 = Crc.S16 (six x)) (h0 : mask ≠ 0) : dec (x ^^^ mask * 2 ^ 48) = none ∧ x ^^^ mask * 2 ^ 48 ≠ x := by
  have e : (281474976710656 : Nat) = 2 ^ 48 := rfl
  have h1 : (x ^^^ mask * 2 ^ 48) % 281474976710656 = x % 281474976710656 := by
    rw [e]
    apply Nat.eq_of_testBit_eq
    intro b
    simp only [Nat.testBit_mod_two_pow, Nat.testBit_xor, Nat.testBit_mul_two_pow]
    by_cases hb : b < 48
    · have : ¬ 48 ≤ b := by omega
      simp [hb, this]
    · simp [hb]
  have h2 : (x ^^^ mask * 2 ^ 48) / 281474976710656 = x / 281474976710656 ^^^ mask := by
    rw [e]
    apply Nat.eq_of_testBit_eq
    intro b
    simp only [Nat.testBit_div_two_pow, Nat.testBit_xor, Nat.testBit_mul_two_pow]
    simp
  have h3 : x / 281474976710656 ^^^ mask ≠ x / 281474976710656 := by
    intro h
    apply h0
    have : (x / 281474976710656) ^^^ ((x / 281474976710656) ^^^ mask) = (x / 281474976710656) ^^^ (x / 281474976710656) := by rw [h]
    rw [← Nat.xor_assoc, Nat.xor_self, Nat.zero_xor] at this
    exact this
  exact ⟨bad_none (by rw [h2, six_low h1, ← hx]; exact h3), fun h => h3 (by rw [← h2, h])⟩
end Slo
end Go.Proofs.Ytjhmmllifecfkaa
