/- An inode's line as a list of words, whether an inode may be, and whose a list is. -/
import Derived.Test.YtoigfhijlnajoaaLinMem
namespace Go.Proofs.Ytoigfhijlnajoaa
open Go.RowKit Go.MapKept
namespace Ino
open Lin

/-- a place of blocks and a size that may be one's that is not free -/
def plc (h s : Int) : Bool := decide ((-1 ≤ h ∧ h ≤ 65533) ∧ (0 ≤ s ∧ s ≤ 268435456) ∧ (h = -1 ↔ s = 0))

/-- it may be -/
def May (k h s : Int) : Prop := (k = 0 ∧ h = -1 ∧ s = 0) ∨ ((k = 1 ∨ k = 2 ∧ s % 64 = 0) ∧ (-1 ≤ h ∧ h ≤ 65533) ∧ (0 ≤ s ∧ s ≤ 268435456) ∧ (h = -1 ↔ s = 0))
instance (k h s : Int) : Decidable (May k h s) := by unfold May; infer_instance
def may (k h s : Int) : Bool := decide (May k h s)

/-- the first word -/
def nums (k p : Nat) : Nat := k + 65536 * p
/-- the words ahead of the sum -/
def front (k p s : Nat) : List Nat := [nums k p, s, 0, 0, 0, 0, 0]
/-- their sum -/
def sum (k p s : Nat) : Nat := Crc.S32 (Crc.wflat (front k p s))
/-- the free one's line -/
def zero : List Nat := [0, 0, 0, 0, 0, 0, 0, 0]
/-- the line of one that isn't free -/
def full (k p s : Nat) : List Nat := [nums k p, s, 0, 0, 0, 0, 0, sum k p s]
/-- the line of an inode whose Head is p less 1 -/
def ln (k p s : Nat) : List Nat := if k = 0 then zero else full k p s

theorem full_len (k p s : Nat) : (full k p s).length = 8 := rfl
theorem front_len (k p s : Nat) : (front k p s).length = 7 := rfl
theorem ln_len (k p s : Nat) : (ln k p s).length = 8 := by
  unfold ln
  split <;> rfl
theorem ln_zero (p s : Nat) : ln 0 p s = zero := rfl
theorem ln_full {k : Nat} (h : k ≠ 0) (p s : Nat) : ln k p s = full k p s := if_neg h

theorem nums_lt {k p : Nat} (hk : k < 65536) (hp : p < 65536) : nums k p < 4294967296 := by unfold nums; omega
theorem sum_lt (k p s : Nat) : sum k p s < 4294967296 := s32_lt _

theorem front_u64 {k p s : Nat} (hk : k < 65536) (hp : p < 65536) (hs : s < 18446744073709551616) : ∀ x ∈ front k p s, x < 18446744073709551616 := by
  intro x hx
  have h1 := nums_lt hk hp
  simp only [front, List.mem_cons, List.not_mem_nil, or_false] at hx
  rcases hx with rfl | rfl | rfl | rfl | rfl | rfl | rfl <;> omega
theorem full_u64 {k p s : Nat} (hk : k < 65536) (hp : p < 65536) (hs : s < 18446744073709551616) : ∀ x ∈ full k p s, x < 18446744073709551616 := by
  intro x hx
  have h1 := nums_lt hk hp
  have h2 := sum_lt k p s
  simp only [full, List.mem_cons, List.not_mem_nil, or_false] at hx
  rcases hx with rfl | rfl | rfl | rfl | rfl | rfl | rfl | rfl <;> omega
theorem zero_u64 : ∀ x ∈ zero, x < 18446744073709551616 := by decide

/-- the numbers' bounds -/
theorem may_lt {k p s : Nat} (h : may k ((p : Int) - 1) s = true) : k < 3 ∧ p < 65535 ∧ s ≤ 268435456 := by
  have h := of_decide_eq_true h
  unfold May at h
  omega
theorem may_free {p s : Nat} (h : may ((0 : Nat) : Int) ((p : Int) - 1) s = true) : p = 0 ∧ s = 0 := by
  have h := of_decide_eq_true h
  unfold May at h
  omega
theorem may_nat {k h s : Int} (e : may k h s = true) : ∃ k' p s' : Nat, k = (k' : Int) ∧ h = (p : Int) - 1 ∧ s = (s' : Int) := by
  have e := of_decide_eq_true e
  unfold May at e
  obtain ⟨k, rfl⟩ := Int.eq_ofNat_of_zero_le (show 0 ≤ k by omega)
  obtain ⟨p, hp⟩ := Int.eq_ofNat_of_zero_le (show 0 ≤ h + 1 by omega)
  obtain ⟨s, rfl⟩ := Int.eq_ofNat_of_zero_le (show 0 ≤ s by omega)
  exact ⟨k, p, s, rfl, by omega, rfl⟩

theorem ln_u64 {k p s : Nat} (h : may k ((p : Int) - 1) s = true) : ∀ x ∈ ln k p s, x < 18446744073709551616 := by
  obtain ⟨h1, h2, h3⟩ := may_lt h
  unfold ln
  split
  · exact zero_u64
  · exact full_u64 (by omega) (by omega) (by omega)

theorem pk_nums {k p : Nat} (hk : k < 65536) (hp : p < 65536) : Pack.pk 0 0 [⟨16, k⟩, ⟨16, p⟩] = some (nums k p, 32) := by
  unfold nums
  simp [Pack.pk, hk, hp]
  omega

theorem split_nums (x : Nat) : Pack.split x [16, 16] = if x < 4294967296 then some [x % 65536, x / 65536 % 65536] else none := by
  have h : Pack.tot 0 [16, 16] = some 32 := by decide
  unfold Pack.split
  rw [h]
  have e : (2 : Nat) ^ 32 = 4294967296 := rfl
  simp only [e]
  by_cases hx : x < 4294967296
  · have : x / 4294967296 = 0 := by omega
    simp [hx, this, Pack.sp]
  · have : ¬ x / 4294967296 = 0 := by omega
    simp [hx, this]

/-- whose it is: the kind, the Head and 1, the size -/
def dec (l : List Nat) : Option (Nat × Nat × Nat) :=
  let x : Nat := l[0]?.getD 0
  let s : Nat := l[1]?.getD 0
  let k : Nat := x % 65536
  let p : Nat := x / 65536
  if l.length = 8 ∧ x < 4294967296 ∧ may k ((p : Int) - 1) s = true ∧ l = ln k p s then some (k, p, s) else none

theorem dec_ln {k p s : Nat} (h : may k ((p : Int) - 1) s = true) : dec (ln k p s) = some (k, p, s) := by
  obtain ⟨h1, h2, h3⟩ := may_lt h
  by_cases hk : k = 0
  · subst hk
    obtain ⟨rfl, rfl⟩ := may_free h
    unfold dec
    exact if_pos ⟨rfl, by decide, h, rfl⟩
  · have h4 := nums_lt (k := k) (p := p) (by omega) (by omega)
    have e1 : nums k p % 65536 = k := by unfold nums; omega
    have e2 : nums k p / 65536 = p := by unfold nums; omega
    have e : (ln k p s)[0]?.getD 0 = nums k p := by rw [ln_full hk]; rfl
    have e' : (ln k p s)[1]?.getD 0 = s := by rw [ln_full hk]; rfl
    unfold dec
    simp only [e, e', e1, e2]
    exact if_pos ⟨ln_len k p s, h4, h, trivial⟩

theorem dec_some {l : List Nat} {k p s : Nat} (h : dec l = some (k, p, s)) : may k ((p : Int) - 1) s = true ∧ l = ln k p s := by
  unfold dec at h
  simp only at h
  split at h
  · rename_i hc
    injection h with h
    injection h with h1 h2
    injection h2 with h2 h3
    subst h1 h2 h3
    exact hc.2.2
  · cases h

/-- what is no line of one that may be -/
theorem dec_none {l : List Nat} (h : ∀ k p s : Nat, may k ((p : Int) - 1) s = true → l ≠ ln k p s) : dec l = none := by
  cases e : dec l with
  | none => rfl
  | some q =>
    obtain ⟨k, p, s⟩ := q
    have := dec_some e
    exact absurd this.2 (h k p s this.1)
end Ino
end Go.Proofs.Ytoigfhijlnajoaa
