/- A record's line as a list of words, whether a record may be, and whose a list is. -/
import Derived.Test.YtamkelcgalfkcaaLinFour
namespace Go.Proofs.Ytamkelcgalfkcaa
open Go.RowKit Go.MapKept
namespace Rec
open Lin

/-- it may be -/
def May (s f t c : Int) : Prop := (0 ≤ s ∧ s ≤ 65533) ∧ (0 ≤ f ∧ f ≤ 65533) ∧ (0 ≤ t ∧ t ≤ 65533) ∧ (1 ≤ c ∧ c ≤ 65534)
instance (s f t c : Int) : Decidable (May s f t c) := by unfold May; infer_instance
def may (s f t c : Int) : Bool := decide (May s f t c)

/-- the first word -/
def nums (s f t : Nat) : Nat := 1 + 65536 * s + 4294967296 * f + 281474976710656 * t
/-- the words ahead of the sum -/
def front (s f t c : Nat) : List Nat := [nums s f t, c, 0, 0, 0, 0, 0]
/-- their sum -/
def sum (s f t c : Nat) : Nat := Crc.S32 (Crc.wflat (front s f t c))
/-- the empty line -/
def zero : List Nat := [0, 0, 0, 0, 0, 0, 0, 0]
/-- a record's line -/
def ln (s f t c : Nat) : List Nat := [nums s f t, c, 0, 0, 0, 0, 0, sum s f t c]

theorem ln_len (s f t c : Nat) : (ln s f t c).length = 8 := rfl
theorem front_len (s f t c : Nat) : (front s f t c).length = 7 := rfl

theorem nums_lt {s f t : Nat} (hs : s < 65536) (hf : f < 65536) (ht : t < 65536) : nums s f t < 18446744073709551616 := by unfold nums; omega
theorem sum_lt (s f t c : Nat) : sum s f t c < 4294967296 := s32_lt _
theorem nums_pos (s f t : Nat) : nums s f t ≠ 0 := by unfold nums; omega
theorem nums_get {s f t : Nat} (hs : s < 65536) (hf : f < 65536) (_ht : t < 65536) : nums s f t / 65536 % 65536 = s ∧ nums s f t / 4294967296 % 65536 = f ∧ nums s f t / 281474976710656 = t := by
  unfold nums
  omega

theorem front_u64 {s f t c : Nat} (hs : s < 65536) (hf : f < 65536) (ht : t < 65536) (hc : c < 18446744073709551616) : ∀ x ∈ front s f t c, x < 18446744073709551616 := by
  intro x hx
  have h1 := nums_lt hs hf ht
  simp only [front, List.mem_cons, List.not_mem_nil, or_false] at hx
  rcases hx with rfl | rfl | rfl | rfl | rfl | rfl | rfl <;> omega
theorem full_u64 {s f t c : Nat} (hs : s < 65536) (hf : f < 65536) (ht : t < 65536) (hc : c < 18446744073709551616) : ∀ x ∈ ln s f t c, x < 18446744073709551616 := by
  intro x hx
  have h1 := nums_lt hs hf ht
  have h2 := sum_lt s f t c
  simp only [ln, List.mem_cons, List.not_mem_nil, or_false] at hx
  rcases hx with rfl | rfl | rfl | rfl | rfl | rfl | rfl | rfl <;> omega
theorem zero_u64 : ∀ x ∈ zero, x < 18446744073709551616 := by decide

/-- the numbers' bounds -/
theorem may_lt {s f t c : Nat} (h : may s f t c = true) : s ≤ 65533 ∧ f ≤ 65533 ∧ t ≤ 65533 ∧ 1 ≤ c ∧ c ≤ 65534 := by
  have h := of_decide_eq_true h
  unfold May at h
  omega
theorem may_nat {s f t c : Int} (e : may s f t c = true) : ∃ s' f' t' c' : Nat, s = (s' : Int) ∧ f = (f' : Int) ∧ t = (t' : Int) ∧ c = (c' : Int) := by
  have e := of_decide_eq_true e
  unfold May at e
  obtain ⟨s, rfl⟩ := Int.eq_ofNat_of_zero_le (show 0 ≤ s by omega)
  obtain ⟨f, rfl⟩ := Int.eq_ofNat_of_zero_le (show 0 ≤ f by omega)
  obtain ⟨t, rfl⟩ := Int.eq_ofNat_of_zero_le (show 0 ≤ t by omega)
  obtain ⟨c, rfl⟩ := Int.eq_ofNat_of_zero_le (show 0 ≤ c by omega)
  exact ⟨s, f, t, c, rfl, rfl, rfl, rfl⟩

theorem ln_u64 {s f t c : Nat} (h : may s f t c = true) : ∀ x ∈ ln s f t c, x < 18446744073709551616 := by
  obtain ⟨h1, h2, h3, h4, h5⟩ := may_lt h
  exact full_u64 (by omega) (by omega) (by omega) (by omega)

theorem ln_zero (s f t c : Nat) : ln s f t c ≠ zero := by
  intro h
  unfold ln zero at h
  injection h with h _
  exact nums_pos s f t h

theorem pk_nums {s f t : Nat} (hs : s < 65536) (hf : f < 65536) (ht : t < 65536) : Pack.pk 0 0 [⟨16, 1⟩, ⟨16, s⟩, ⟨16, f⟩, ⟨16, t⟩] = some (nums s f t, 64) := by
  unfold nums
  simp [Pack.pk, hs, hf, ht]
  omega

theorem split_nums {x : Nat} (hx : x < 18446744073709551616) : Pack.split x [16, 16, 16, 16] = some [x % 65536, x / 65536 % 65536, x / 4294967296 % 65536, x / 281474976710656] := by
  have h : Pack.tot 0 [16, 16, 16, 16] = some 64 := by decide
  unfold Pack.split
  rw [h]
  have e : (2 : Nat) ^ 64 = 18446744073709551616 := rfl
  have : x / 18446744073709551616 = 0 := by omega
  simp only [e, this]
  simp [Pack.sp, Nat.div_div_eq_div_mul]
  omega

/-- whose it is -/
def dec (l : List Nat) : Option (Nat × Nat × Nat × Nat) :=
  let x : Nat := l[0]?.getD 0
  let c : Nat := l[1]?.getD 0
  let s : Nat := x / 65536 % 65536
  let f : Nat := x / 4294967296 % 65536
  let t : Nat := x / 281474976710656
  if l.length = 8 ∧ may s f t c = true ∧ l = ln s f t c then some (s, f, t, c) else none

theorem dec_ln {s f t c : Nat} (h : may s f t c = true) : dec (ln s f t c) = some (s, f, t, c) := by
  obtain ⟨h1, h2, h3, h4, h5⟩ := may_lt h
  obtain ⟨e1, e2, e3⟩ := nums_get (s := s) (f := f) (t := t) (by omega) (by omega) (by omega)
  have e : (ln s f t c)[0]?.getD 0 = nums s f t := rfl
  have e' : (ln s f t c)[1]?.getD 0 = c := rfl
  unfold dec
  simp only [e, e', e1, e2, e3]
  exact if_pos ⟨ln_len s f t c, h, trivial⟩

theorem dec_some {l : List Nat} {s f t c : Nat} (h : dec l = some (s, f, t, c)) : may s f t c = true ∧ l = ln s f t c := by
  unfold dec at h
  simp only at h
  split at h
  · rename_i hc
    injection h with h
    injection h with h1 h2
    injection h2 with h2 h3
    injection h3 with h3 h4
    subst h1 h2 h3 h4
    exact hc.2
  · cases h

/-- what is no line of one that may be -/
theorem dec_none {l : List Nat} (h : ∀ s f t c : Nat, may s f t c = true → l ≠ ln s f t c) : dec l = none := by
  cases e : dec l with
  | none => rfl
  | some q =>
    obtain ⟨s, f, t, c⟩ := q
    have := dec_some e
    exact absurd this.2 (h s f t c this.1)
theorem dec_zero : dec zero = none := dec_none (fun s f t c _ e => ln_zero s f t c e.symm)

/-- what a line is: 0 empty, 1 full, 2 torn -/
def st (l : List Nat) : Int := if l = zero then 0 else if (dec l).isSome = true then 1 else 2
theorem st_zero : st zero = 0 := if_pos rfl
theorem st_some {l : List Nat} {q : Nat × Nat × Nat × Nat} (h : dec l = some q) : st l = 1 := by
  unfold st
  have h0 : l ≠ zero := by
    intro e
    rw [e, dec_zero] at h
    cases h
  rw [if_neg h0, h]
  rfl
theorem st_none {l : List Nat} (h0 : l ≠ zero) (h : dec l = none) : st l = 2 := by
  unfold st
  rw [if_neg h0, h]
  rfl
end Rec
end Go.Proofs.Ytamkelcgalfkcaa
