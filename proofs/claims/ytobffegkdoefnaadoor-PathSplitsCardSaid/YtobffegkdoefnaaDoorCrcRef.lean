/- The document's sums of a text. -/
import Derived.Test.YtobffegkdoefnaaDoorCrcSum
namespace Go.Proofs.YtobffegkdoefnaaDoor
open Go.RowKit Go.MapKept
namespace Crc

/-- a text's bytes -/
def tx (s : ByteArray) : List Nat := s.data.toList.map UInt8.toNat

theorem tx_len (s : ByteArray) : (tx s).length = s.size := by
  unfold tx
  rw [List.length_map, Array.length_toList]
  rfl
theorem tx_byt (s : ByteArray) : Byt (tx s) := by
  intro b hb
  obtain ⟨x, _, rfl⟩ := List.mem_map.1 hb
  exact x.toNat_lt
theorem tx_get {s : ByteArray} {i : Nat} (h : i < s.size) : (tx s)[i]?.getD 0 = (s[i]'h).toNat := by
  have h' : i < s.data.toList.length := by rw [Array.length_toList]; exact h
  simp only [tx, List.getElem?_map, List.getElem?_eq_getElem h', Option.map_some, Option.getD_some]
  rfl

theorem bit_div (x i : Nat) : x / 2 ^ i % 2 = (x.testBit i).toNat := by
  rw [Nat.testBit_eq_decide_div_mod_eq]
  rcases Nat.mod_two_eq_zero_or_one (x / 2 ^ i) with h | h <;> simp [h]

theorem A_bit (p x e : Nat) (he : e < 2) : A p (x ^^^ e) = if e = x % 2 then x / 2 else x / 2 ^^^ p := by
  unfold A
  rw [half_xor, odd_xor, Nat.div_eq_of_lt he, Nat.xor_zero]
  have := Nat.mod_lt x (show 0 < 2 by omega)
  by_cases h : e = x % 2
  · have : ¬ (x % 2 + e % 2) % 2 = 1 := by omega
    rw [if_pos h, if_neg this, Nat.xor_zero]
  · have : (x % 2 + e % 2) % 2 = 1 := by omega
    rw [if_neg h, if_pos this]

/-- the bit that is taken next -/
def bit (l : List Nat) (m : Nat) : Nat := le l / 2 ^ m % 2
theorem bit_lt (l : List Nat) (m : Nat) : bit l m < 2 := Nat.mod_lt _ (by omega)
theorem ser_step (p r : Nat) (l : List Nat) (m : Nat) : ser p r (le l) (m + 1) = if bit l m = ser p r (le l) m % 2 then ser p r (le l) m / 2 else ser p r (le l) m / 2 ^^^ p := A_bit p _ _ (bit_lt l m)

theorem ser32_lt (l : List Nat) (m : Nat) : ser P32 4294967295 (le l) m < 4294967296 := by
  induction m with
  | zero => show 4294967295 < _; omega
  | succ m ih =>
    rw [ser_step]
    split
    · omega
    · exact Nat.xor_lt_two_pow (n := 32) (by omega) (by decide)
theorem ser16_lt (l : List Nat) (m : Nat) : ser P16 65535 (le l) m < 65536 := by
  induction m with
  | zero => show 65535 < _; omega
  | succ m ih =>
    rw [ser_step]
    split
    · omega
    · exact Nat.xor_lt_two_pow (n := 16) (by omega) (by decide)

theorem bit32 {s : ByteArray} {m : Nat} (h : m / 8 < s.size) : bits .and .u32 (((s[m / 8]'h).toNat : Int) / 2 ^ (m % 8) % 4294967296) 1 = ((bit (tx s) m : Nat) : Int) := by
  have h1 : (((s[m / 8]'h).toNat : Int) / 2 ^ (m % 8) % 4294967296) = (((s[m / 8]'h).toNat / 2 ^ (m % 8) % 4294967296 : Nat) : Int) := by simp
  rw [h1]
  have h2 := u32_and_nat ((s[m / 8]'h).toNat / 2 ^ (m % 8) % 4294967296) 1 (by omega) (by omega)
  rw [nat_mask1] at h2
  refine h2.trans ?_
  unfold bit
  rw [bit_div, bit_le _ _ (tx_byt s) (by rw [tx_len]; omega), tx_get h, ← bit_div]
  omega

theorem bit16 {s : ByteArray} {m : Nat} (h : m / 8 < s.size) : bits .and .u16 (((s[m / 8]'h).toNat : Int) / 2 ^ (7 - m % 8) % 65536) 1 = ((bit ((tx s).map (rev 8)) m : Nat) : Int) := by
  have h1 : (((s[m / 8]'h).toNat : Int) / 2 ^ (7 - m % 8) % 65536) = (((s[m / 8]'h).toNat / 2 ^ (7 - m % 8) % 65536 : Nat) : Int) := by simp
  rw [h1]
  have h2 := u16_and_nat ((s[m / 8]'h).toNat / 2 ^ (7 - m % 8) % 65536) 1 (by omega) (by omega)
  rw [nat_mask1] at h2
  refine h2.trans ?_
  unfold bit
  have hl : m / 8 < (tx s).length := by rw [tx_len]; exact h
  have e : (((tx s).map (rev 8))[m / 8]?.getD 0) = rev 8 (s[m / 8]'h).toNat := by
    rw [← tx_get h, List.getElem?_map, List.getElem?_eq_getElem hl]
    rfl
  rw [bit_div, bit_le _ _ (Byt.rev8 _) (by rw [List.length_map, tx_len]; omega), e, bit_rev]
  have h8 : m % 8 < 8 := by omega
  simp only [h8, decide_true, Bool.true_and]
  rw [show 8 - 1 - m % 8 = 7 - m % 8 by omega, ← bit_div]
  omega

theorem rev_p16 : rev 16 P16 = 4129 := by decide

end Crc
end Go.Proofs.YtobffegkdoefnaaDoor
