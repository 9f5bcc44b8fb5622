/- A superblock as a list of words: a geometry's, and whose a list is. -/
import Derived.Test.YthfkbfbchoekjaaGeoRef
import Derived.Test.YthfkbfbchoekjaaCrcTurn
import Derived.Test.YthfkbfbchoekjaaPackWords
namespace Go.Proofs.Ythfkbfbchoekjaa
open Go.RowKit Go.MapKept
namespace Sup

/-- the text's word -/
def magic : Nat := 3544409100874826051
/-- the text's bytes -/
def txt : List Nat := [67, 65, 78, 84, 76, 69, 48, 49]
theorem magic_lt : magic < 18446744073709551616 := by decide
theorem txt_word : Pack.wrds txt = [magic] := by decide

/-- the numbers' word -/
def nums (n m s : Nat) : Nat := n + 65536 * m + 4294967296 * s
/-- the words ahead of the sum -/
def front (n m s : Nat) : List Nat := [magic, nums n m s, 0, 0, 0, 0, 0]
/-- their sum -/
def sum (n m s : Nat) : Nat := Crc.S32 (Crc.wflat (front n m s))
/-- the superblock -/
def sb (n m s : Nat) : List Nat := [magic, nums n m s, 0, 0, 0, 0, 0, sum n m s]

theorem sb_len (n m s : Nat) : (sb n m s).length = 8 := rfl
theorem front_len (n m s : Nat) : (front n m s).length = 7 := rfl

theorem nums_lt {n m s : Nat} (hn : n < 65536) (hm : m < 65536) (hs : s < 65536) : nums n m s < 281474976710656 := by unfold nums; omega

theorem s32_lt (l : List Nat) : Crc.S32 l < 4294967296 := by
  unfold Crc.S32
  omega
theorem sum_lt (n m s : Nat) : sum n m s < 4294967296 := s32_lt _

theorem sb_u64 {n m s : Nat} (hn : n < 65536) (hm : m < 65536) (hs : s < 65536) : ∀ x ∈ sb n m s, x < 18446744073709551616 := by
  intro x hx
  have h1 := nums_lt hn hm hs
  have h2 := sum_lt n m s
  have h3 := magic_lt
  simp only [sb, List.mem_cons, List.not_mem_nil, or_false] at hx
  rcases hx with rfl | rfl | rfl | rfl | rfl | rfl | rfl | rfl <;> omega

theorem pk_nums {n m s : Nat} (hn : n < 65536) (hm : m < 65536) (hs : s < 65536) : Pack.pk 0 0 [⟨16, n⟩, ⟨16, m⟩, ⟨16, s⟩] = some (nums n m s, 48) := by
  unfold nums
  simp [Pack.pk, hn, hm, hs]
  omega

theorem split_nums (x : Nat) : Pack.split x [16, 16, 16] = if x < 281474976710656 then some [x % 65536, x / 65536 % 65536, x / 4294967296 % 65536] else none := by
  have h : Pack.tot 0 [16, 16, 16] = some 48 := by decide
  unfold Pack.split
  rw [h]
  have e : (2 : Nat) ^ 48 = 281474976710656 := rfl
  simp only [e]
  by_cases hx : x < 281474976710656
  · have : x / 281474976710656 = 0 := by omega
    simp [hx, this, Pack.sp]
    omega
  · have : ¬ x / 281474976710656 = 0 := by omega
    simp [hx, this]

/-- whose it is -/
def dec (l : List Nat) : Option (Nat × Nat × Nat) :=
  let x : Nat := l[1]?.getD 0
  let n : Nat := x % 65536
  let m : Nat := x / 65536 % 65536
  let s : Nat := x / 4294967296
  if l.length = 8 ∧ x < 281474976710656 ∧ Geo.may n m s = true ∧ l = sb n m s then some (n, m, s) else none

theorem may_lt {n m s : Nat} (h : Geo.may n m s = true) : n < 65536 ∧ m < 65536 ∧ s < 65536 := by
  obtain ⟨⟨h1, h2, h3⟩, _⟩ := Geo.may_num h
  have := h3.bounds
  omega

theorem dec_sb {n m s : Nat} (h : Geo.may n m s = true) : dec (sb n m s) = some (n, m, s) := by
  obtain ⟨h1, h2, h3⟩ := may_lt h
  have h4 := nums_lt h1 h2 h3
  have e1 : nums n m s % 65536 = n := by unfold nums; omega
  have e2 : nums n m s / 65536 % 65536 = m := by unfold nums; omega
  have e3 : nums n m s / 4294967296 = s := by unfold nums; omega
  have e : (sb n m s)[1]?.getD 0 = nums n m s := rfl
  unfold dec
  simp only [e, e1, e2, e3]
  exact if_pos ⟨rfl, h4, h, trivial⟩

theorem dec_some {l : List Nat} {n m s : Nat} (h : dec l = some (n, m, s)) : Geo.may n m s = true ∧ l = sb n m s := by
  unfold dec at h
  simp only at h
  split at h
  · rename_i hc
    injection h with h
    injection h with h1 h2
    injection h2 with h2 h3
    subst h1 h2 h3
    exact hc.2.2
  · cases h

/-- what is no superblock of one that may be -/
theorem dec_none {l : List Nat} (h : ∀ n m s : Nat, Geo.may n m s = true → l ≠ sb n m s) : dec l = none := by
  cases e : dec l with
  | none => rfl
  | some q =>
    obtain ⟨n, m, s⟩ := q
    have := dec_some e
    exact absurd this.2 (h n m s this.1)
end Sup
end Go.Proofs.Ythfkbfbchoekjaa
