/- A slot's word as a number, whether a slot may be, and whose a word is. -/
import Derived.Test.YtjhmmllifecfkaaLinMem
import Derived.Test.YtjhmmllifecfkaaPackText
namespace Go.Proofs.Ytjhmmllifecfkaa
open Go.RowKit Go.MapKept
namespace Slo
open Lin

/-- it may be -/
def May (s c n : Int) : Prop := (0 ≤ s ∧ s ≤ 65533) ∧ (1 ≤ c ∧ c ≤ 65534 - s) ∧ (-1 ≤ n ∧ n ≤ 65533)
instance (s c n : Int) : Decidable (May s c n) := by unfold May; infer_instance
def may (s c n : Int) : Bool := decide (May s c n)
theorem may_iff {s c n : Int} : may s c n = true ↔ May s c n := decide_eq_true_iff

/-- the Next that a field tells -/
def nx (q : Nat) : Int := if q = 65535 then -1 else (q : Int)
theorem nx_none : nx 65535 = -1 := rfl
theorem nx_some {q : Nat} (h : q ≠ 65535) : nx q = (q : Int) := if_neg h

/-- the three numbers -/
def nums (s c q : Nat) : Nat := s + 65536 * c + 4294967296 * q
/-- the 6 bytes that are summed -/
def six (x : Nat) : List Nat := (Crc.wb x).take 6
/-- their sum -/
def sum (s c q : Nat) : Nat := Crc.S16 (six (nums s c q))
/-- the word -/
def wd (s c q : Nat) : Nat := nums s c q + 281474976710656 * sum s c q

theorem six_len (x : Nat) : (six x).length = 6 := by
  unfold six
  rw [List.length_take, Crc.wb_len]
  rfl
theorem six_byt (x : Nat) : Crc.Byt (six x) := (Crc.wb_byt x).take 6
theorem nums_lt {s c q : Nat} (hs : s < 65536) (hc : c < 65536) (hq : q < 65536) : nums s c q < 281474976710656 := by unfold nums; omega
theorem s16_lt (l : List Nat) : Crc.S16 l < 65536 := by
  unfold Crc.S16
  exact Crc.rev_lt 16 _
theorem sum_lt (s c q : Nat) : sum s c q < 65536 := s16_lt _
theorem wd_lt {s c q : Nat} (hs : s < 65536) (hc : c < 65536) (hq : q < 65536) : wd s c q < 18446744073709551616 := by
  have h1 := nums_lt hs hc hq
  have h2 := sum_lt s c q
  unfold wd
  omega

theorem wd_s {s c q : Nat} (hs : s < 65536) (_hc : c < 65536) (_hq : q < 65536) : wd s c q % 65536 = s := by
  unfold wd nums
  omega
theorem wd_c {s c q : Nat} (hs : s < 65536) (hc : c < 65536) (_hq : q < 65536) : wd s c q / 65536 % 65536 = c := by
  unfold wd nums
  omega
theorem wd_q {s c q : Nat} (hs : s < 65536) (hc : c < 65536) (hq : q < 65536) : wd s c q / 4294967296 % 65536 = q := by
  unfold wd nums
  omega

/-- the numbers' bounds -/
theorem may_lt {s c q : Nat} (h : may s c (nx q) = true) : s ≤ 65533 ∧ 1 ≤ c ∧ c + s ≤ 65534 ∧ q < 65536 := by
  have h := may_iff.1 h
  unfold May nx at h
  split at h <;> omega
theorem may_nat {s c n : Int} (e : may s c n = true) : ∃ s' c' q : Nat, s = (s' : Int) ∧ c = (c' : Int) ∧ n = nx q := by
  have e := may_iff.1 e
  unfold May at e
  obtain ⟨s, rfl⟩ := Int.eq_ofNat_of_zero_le (show 0 ≤ s by omega)
  obtain ⟨c, rfl⟩ := Int.eq_ofNat_of_zero_le (show 0 ≤ c by omega)
  by_cases h : n = -1
  · exact ⟨s, c, 65535, rfl, rfl, h⟩
  · obtain ⟨q, rfl⟩ := Int.eq_ofNat_of_zero_le (show 0 ≤ n by omega)
    exact ⟨s, c, q, rfl, rfl, (nx_some (by omega)).symm⟩

theorem pk_three {s c q : Nat} (hs : s < 65536) (hc : c < 65536) (hq : q < 65536) : Pack.pk 0 0 [⟨16, s⟩, ⟨16, c⟩, ⟨16, q⟩] = some (nums s c q, 48) := by
  unfold nums
  simp [Pack.pk, hs, hc, hq]
  omega
theorem pk_four {s c q m : Nat} (hs : s < 65536) (hc : c < 65536) (hq : q < 65536) (hm : m < 65536) : Pack.pk 0 0 [⟨16, s⟩, ⟨16, c⟩, ⟨16, q⟩, ⟨16, m⟩] = some (nums s c q + 281474976710656 * m, 64) := by
  unfold nums
  simp [Pack.pk, hs, hc, hq, hm]
  omega
theorem split_four {x : Nat} (h : x < 18446744073709551616) : Pack.split x [16, 16, 16, 16] = some [x % 65536, x / 65536 % 65536, x / 4294967296 % 65536, x / 281474976710656] := by
  have ht : Pack.tot 0 [16, 16, 16, 16] = some 64 := by decide
  unfold Pack.split
  rw [ht]
  have e : (2 : Nat) ^ 64 = 18446744073709551616 := rfl
  simp only [e]
  have h0 : x / 18446744073709551616 = 0 := by omega
  rw [if_pos h0]
  simp only [Pack.sp]
  have e16 : (2 : Nat) ^ (16 : Int).toNat = 65536 := by decide
  simp only [e16]
  have e1 : x / 65536 / 65536 = x / 4294967296 := by rw [Nat.div_div_eq_div_mul]
  have e2 : x / 4294967296 / 65536 = x / 281474976710656 := by rw [Nat.div_div_eq_div_mul]
  rw [e1, e2]
  have e3 : x / 281474976710656 % 65536 = x / 281474976710656 := by omega
  rw [e3]

/-- whose it is: the start, the count, the field of the Next -/
def dec (x : Nat) : Option (Nat × Nat × Nat) :=
  let s : Nat := x % 65536
  let c : Nat := x / 65536 % 65536
  let q : Nat := x / 4294967296 % 65536
  if may s c (nx q) = true ∧ x = wd s c q then some (s, c, q) else none

theorem dec_wd {s c q : Nat} (h : may s c (nx q) = true) : dec (wd s c q) = some (s, c, q) := by
  obtain ⟨h1, h2, h3, h4⟩ := may_lt h
  unfold dec
  simp only [wd_s (show s < 65536 by omega) (show c < 65536 by omega) h4, wd_c (show s < 65536 by omega) (show c < 65536 by omega) h4, wd_q (show s < 65536 by omega) (show c < 65536 by omega) h4]
  exact if_pos ⟨h, trivial⟩

theorem dec_some {x s c q : Nat} (h : dec x = some (s, c, q)) : may s c (nx q) = true ∧ x = wd s c q := by
  unfold dec at h
  simp only at h
  split at h
  · rename_i hc
    injection h with h
    injection h with h1 h2
    injection h2 with h2 h3
    subst h1 h2 h3
    exact hc
  · cases h

/-- what is no word of one that may be -/
theorem dec_none {x : Nat} (h : ∀ s c q : Nat, may s c (nx q) = true → x ≠ wd s c q) : dec x = none := by
  cases e : dec x with
  | none => rfl
  | some q =>
    obtain ⟨s, c, q⟩ := q
    have := dec_some e
    exact absurd this.2 (h s c q this.1)
end Slo
end Go.Proofs.Ytjhmmllifecfkaa
