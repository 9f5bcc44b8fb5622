/- Words and their bytes, as numbers. -/
import Derived.Test.YtjhmmllifecfkaaPackMath
namespace Go.Proofs.Ytjhmmllifecfkaa
namespace Pack

def Byt (l : List Nat) : Prop := ∀ b ∈ l, b < 256
theorem Byt.take {l : List Nat} (h : Byt l) (n : Nat) : Byt (l.take n) := fun b hb => h b (List.mem_of_mem_take hb)

/-- a word's bytes, the lowest first -/
def wb (x : Nat) : List Nat := (List.range 8).map fun k => x / 256 ^ k % 256
theorem wb_len (x : Nat) : (wb x).length = 8 := by simp [wb]
theorem wb_get {x k : Nat} (h : k < (wb x).length) : (wb x)[k] = x / 256 ^ k % 256 := by simp [wb]
theorem wb_byt (x : Nat) : Byt (wb x) := by
  intro b hb
  obtain ⟨k, _, rfl⟩ := List.mem_map.1 hb
  exact Nat.mod_lt _ (by omega)

/-- words' bytes -/
def wflat (l : List Nat) : List Nat := l.flatMap wb
theorem wflat_take {l : List Nat} {m : Nat} (h : m < l.length) : wflat (l.take (m + 1)) = wflat (l.take m) ++ wb l[m] := by
  unfold wflat
  rw [List.take_succ_eq_append_getElem h, List.flatMap_append]
  simp
theorem wflat_byt (l : List Nat) : Byt (wflat l) := by
  intro b hb
  obtain ⟨q, _, hb⟩ := List.mem_flatMap.1 hb
  exact wb_byt q b hb
theorem wflat_len (l : List Nat) : (wflat l).length = 8 * l.length := by
  unfold wflat
  induction l with
  | nil => rfl
  | cons x l ih => rw [List.flatMap_cons, List.length_append, ih, wb_len, List.length_cons]; omega
theorem wflat_get : ∀ {l : List Nat} {i j : Nat} (h : i < l.length), j < 8 → (wflat l)[8 * i + j]?.getD 0 = l[i] / 256 ^ j % 256
  | x :: l, 0, j, _, hj => by
    unfold wflat
    rw [List.flatMap_cons, List.getElem?_append_left (by rw [wb_len]; omega), List.getElem?_eq_getElem (by rw [wb_len]; omega), wb_get]
    simp
  | x :: l, i + 1, j, h, hj => by
    have := wflat_get (l := l) (i := i) (j := j) (by simpa using h) hj
    have e : 8 * (i + 1) + j = 8 * i + j + (wb x).length := by rw [wb_len]; omega
    have e2 : wflat (x :: l) = wb x ++ wflat l := by simp [wflat]
    rw [e2, e, List.getElem?_append_right (by omega), Nat.add_sub_cancel, this]
    simp

theorem div_pow (x j : Nat) : x / 256 ^ (j + 1) = x / 256 ^ j / 256 := by rw [Nat.pow_succ, Nat.div_div_eq_div_mul]

/-- a byte of a row, 0 where there is none -/
def at0 (b : List Nat) (k : Nat) : Nat := b[k]?.getD 0
theorem at0_lt {b : List Nat} (h : Byt b) (k : Nat) : at0 b k < 256 := by
  unfold at0
  rcases Nat.lt_or_ge k b.length with h1 | h1
  · rw [List.getElem?_eq_getElem h1]
    exact h _ (List.getElem_mem h1)
  · rw [List.getElem?_eq_none h1]
    simp
theorem at0_get {b : List Nat} {k : Nat} (h : k < b.length) : at0 b k = b[k] := by
  unfold at0
  rw [List.getElem?_eq_getElem h]
  rfl
theorem at0_none {b : List Nat} {k : Nat} (h : b.length ≤ k) : at0 b k = 0 := by
  unfold at0
  rw [List.getElem?_eq_none h]
  rfl

/-- word i, of its first n bytes -/
def part (b : List Nat) (i : Nat) : Nat → Nat
  | 0 => 0
  | n + 1 => part b i n + at0 b (8 * i + n) * 256 ^ n

theorem part_lt {b : List Nat} (h : Byt b) (i : Nat) : ∀ n, part b i n < 256 ^ n
  | 0 => by simp [part]
  | n + 1 => by
    have h1 := part_lt h i n
    have h2 := at0_lt h (8 * i + n)
    have h3 : at0 b (8 * i + n) * 256 ^ n ≤ 255 * 256 ^ n := Nat.mul_le_mul_right _ (by omega)
    rw [part, Nat.pow_succ]
    omega

theorem part_end {b : List Nat} {i j : Nat} (h : b.length ≤ 8 * i + j) : ∀ d, part b i (j + d) = part b i j
  | 0 => rfl
  | d + 1 => by
    rw [← Nat.add_assoc, part, part_end h d, at0_none (by omega), Nat.zero_mul, Nat.add_zero]

/-- the words of bytes -/
def wrds (b : List Nat) : List Nat := (List.range ((b.length + 7) / 8)).map fun i => part b i 8
theorem wrds_len (b : List Nat) : (wrds b).length = (b.length + 7) / 8 := by simp [wrds]
theorem wrds_get {b : List Nat} {i : Nat} (h : i < (wrds b).length) : (wrds b)[i] = part b i 8 := by simp [wrds]
theorem wrds_u64 {b : List Nat} (h : Byt b) : ∀ x ∈ wrds b, x < 18446744073709551616 := by
  intro x hx
  obtain ⟨i, _, rfl⟩ := List.mem_map.1 hx
  exact part_lt h i 8

/-- words' bytes are their words -/
theorem part_wflat {l : List Nat} {i : Nat} (h : i < l.length) : ∀ n, n ≤ 8 → part (wflat l) i n = l[i] % 256 ^ n
  | 0, _ => by simp [part, Nat.mod_one]
  | n + 1, hn => by
    rw [part, part_wflat h n (by omega), at0, wflat_get h (by omega), Nat.mod_pow_succ, Nat.mul_comm]
theorem wrds_wflat {l : List Nat} (h : ∀ x ∈ l, x < 18446744073709551616) : wrds (wflat l) = l := by
  apply List.ext_getElem
  · rw [wrds_len, wflat_len]
    omega
  · intro i h1 h2
    rw [wrds_get, part_wflat h2 8 (by omega), Nat.mod_eq_of_lt]
    exact h _ (List.getElem_mem h2)

/-- a byte of a word -/
theorem part_byte {b : List Nat} (h : Byt b) (i : Nat) : ∀ n j, j < n → part b i n / 256 ^ j % 256 = at0 b (8 * i + j)
  | n + 1, j, hj => by
    rw [part]
    rcases Nat.lt_or_ge j n with h1 | h1
    · obtain ⟨d, rfl⟩ : ∃ d, n = j + (d + 1) := ⟨n - j - 1, by omega⟩
      rw [Nat.pow_add, ← Nat.mul_assoc, Nat.mul_comm (at0 b _ ) (256 ^ j), Nat.mul_assoc, Nat.add_mul_div_left _ _ (Nat.pow_pos (by omega)), Nat.pow_succ, ← Nat.mul_assoc, Nat.add_mul_mod_self_right]
      exact part_byte h i _ j (by omega)
    · obtain rfl : j = n := by omega
      have h2 := part_lt h i j
      rw [Nat.add_mul_div_right _ _ (Nat.pow_pos (by omega)), Nat.div_eq_of_lt h2, Nat.zero_add, Nat.mod_eq_of_lt (at0_lt h _)]

theorem wflat_at {l : List Nat} {k : Nat} (h : k < 8 * l.length) : at0 (wflat l) k = l[k / 8] / 256 ^ (k % 8) % 256 := by
  have := wflat_get (l := l) (i := k / 8) (j := k % 8) (by omega) (by omega)
  rw [← this, at0]
  congr 2
  omega

/-- bytes' words' bytes are these, and noughts -/
theorem wflat_wrds {b : List Nat} (h : Byt b) {k : Nat} (hk : k < 8 * ((b.length + 7) / 8)) : at0 (wflat (wrds b)) k = at0 b k := by
  rw [wflat_at (by rw [wrds_len]; exact hk), wrds_get, part_byte h _ 8 _ (by omega)]
  congr 1
  omega

theorem back_len (b : List Nat) : (wflat (wrds b)).length = (b.length + 7) / 8 * 8 := by rw [wflat_len, wrds_len, Nat.mul_comm]
theorem back_take {b : List Nat} (h : Byt b) : (wflat (wrds b)).take b.length = b := by
  apply List.ext_getElem
  · rw [List.length_take, back_len]
    omega
  · intro i h1 h2
    rw [List.getElem_take, ← at0_get, wflat_wrds h (by omega), at0_get h2]
theorem back_drop {b : List Nat} (h : Byt b) {k : Nat} (hk : k < ((wflat (wrds b)).drop b.length).length) : ((wflat (wrds b)).drop b.length)[k] = 0 := by
  rw [List.length_drop, back_len] at hk
  rw [List.getElem_drop, ← at0_get, wflat_wrds h (by omega), at0_none (by omega)]

/-- a word from its highest byte on, n bytes of it -/
def up (b : List Nat) (i : Nat) : Nat → Nat
  | 0 => 0
  | n + 1 => 256 * up b i n + at0 b (8 * i + (7 - n))
theorem up_lt {b : List Nat} (h : Byt b) (i : Nat) : ∀ n, up b i n < 256 ^ n
  | 0 => by simp [up]
  | n + 1 => by
    have h1 := up_lt h i n
    have h2 := at0_lt h (8 * i + (7 - n))
    rw [up, Nat.pow_succ]
    omega
theorem up_part (b : List Nat) (i M : Nat) (hM : M = 7) (n : Nat) : ∀ d, d + n = M + 1 → part b i d + up b i n * 256 ^ d = part b i (M + 1) := by
  induction n with
  | zero => intro d h; rw [up, Nat.zero_mul, Nat.add_zero, ← h, Nat.add_zero]
  | succ n ih =>
    intro d h
    have h1 := ih (d + 1) (by omega)
    have e2 : 7 - n = d := by omega
    rw [part, Nat.pow_succ] at h1
    rw [up, e2, ← h1, Nat.add_mul, Nat.add_assoc]
    congr 1
    rw [Nat.add_comm]
    congr 1
    rw [Nat.mul_comm 256, Nat.mul_assoc, Nat.mul_comm 256]
theorem up_word (b : List Nat) (i : Nat) : up b i 8 = part b i 8 := by
  have h := up_part b i 7 rfl 8 0 rfl
  have e : part b i 0 = 0 := rfl
  rw [e, Nat.zero_add, Nat.pow_zero, Nat.mul_one] at h
  exact h
end Pack
end Go.Proofs.Ytjhmmllifecfkaa
