/- A map of blocks without memory: which blocks it has is a function; its words; how many they are; the next one; how a word's ones are counted. -/
import Derived.Lib.TrailingZeros
namespace Go.Proofs.YtblibjjnbbleeaaDoor
namespace Bm

/-- n bits from s on, as a number -/
def bt (f : Nat → Bool) (s : Nat) : Nat → Nat
  | 0 => 0
  | n + 1 => bt f s n + if f (s + n) then 2 ^ n else 0
/-- a word -/
def wd (f : Nat → Bool) (k : Nat) : Nat := bt f (64 * k) 64

theorem bt_lt (f : Nat → Bool) (s : Nat) : ∀ n, bt f s n < 2 ^ n
  | 0 => by simp [bt]
  | n + 1 => by
    have := bt_lt f s n
    rw [bt, Nat.pow_succ]
    split <;> omega
theorem bt_bit (f : Nat → Bool) (s i : Nat) : ∀ n, (bt f s n).testBit i = (decide (i < n) && f (s + i))
  | 0 => by simp [bt]
  | n + 1 => by
    have ih := bt_bit f s i n
    have hl := bt_lt f s n
    rw [bt]
    cases hf : f (s + n) with
    | false =>
      simp only [Bool.false_eq_true, if_false, Nat.add_zero, ih]
      by_cases h : i = n
      · subst h; simp [hf]
      · have : decide (i < n + 1) = decide (i < n) := by rw [decide_eq_decide]; omega
        rw [this]
    | true =>
      simp only [if_true]
      rw [Nat.add_comm]
      rcases Nat.lt_trichotomy i n with h | h | h
      · rw [Nat.testBit_two_pow_add_gt h, ih]
        simp [h, Nat.lt_succ_of_lt h]
      · subst h
        rw [Nat.testBit_two_pow_add_eq, ih]
        simp [hf]
      · have : 2 ^ n + bt f s n < 2 ^ i := Nat.lt_of_lt_of_le (show 2 ^ n + bt f s n < 2 ^ (n + 1) by rw [Nat.pow_succ]; omega) (Nat.pow_le_pow_right (by omega) h)
        rw [Nat.testBit_lt_two_pow this]
        simp; omega
theorem wd_lt (f : Nat → Bool) (k : Nat) : wd f k < 18446744073709551616 := bt_lt f (64 * k) 64
theorem wd_bit (f : Nat → Bool) (k i : Nat) : (wd f k).testBit i = (decide (i < 64) && f (64 * k + i)) := bt_bit f (64 * k) i 64
/-- a number is a word, bit by bit -/
theorem is_wd {f : Nat → Bool} {k x : Nat} (h : ∀ i, x.testBit i = (decide (i < 64) && f (64 * k + i))) : x = wd f k := by
  apply Nat.eq_of_testBit_eq
  intro i
  rw [h, wd_bit]
theorem wd_congr {f g : Nat → Bool} {k : Nat} (h : ∀ i, i < 64 → f (64 * k + i) = g (64 * k + i)) : wd f k = wd g k := by
  apply is_wd
  intro i
  rw [wd_bit]
  by_cases hi : i < 64
  · rw [h i hi]
  · simp [hi]
theorem wd_none (k : Nat) : wd (fun _ => false) k = 0 := by
  apply Nat.eq_of_testBit_eq
  intro i
  rw [wd_bit]
  simp
theorem wd_inj {f g : Nat → Bool} {k : Nat} (h : wd f k = wd g k) (i : Nat) (hi : i < 64) : f (64 * k + i) = g (64 * k + i) := by
  have := congrArg (fun x => Nat.testBit x i) h
  simpa [wd_bit, hi] using this

def upd (f : Nat → Bool) (b : Nat) (v : Bool) (x : Nat) : Bool := if x = b then v else f x

theorem top_bit (i : Nat) : (18446744073709551615 : Nat).testBit i = decide (i < 64) := Nat.testBit_two_pow_sub_one 64 i
theorem not_bit (x i : Nat) (h : x < 18446744073709551616) : (18446744073709551615 - x).testBit i = (decide (i < 64) && !x.testBit i) := by
  have : 18446744073709551615 - x = 2 ^ 64 - (x + 1) := by omega
  rw [this, Nat.testBit_two_pow_sub_succ h]
theorem pow_bit (j i : Nat) : (2 ^ j).testBit i = decide (j = i) := Nat.testBit_two_pow
theorem pow_lt64 {j : Nat} (h : j < 64) : 2 ^ j < 18446744073709551616 := Nat.pow_lt_pow_right (a := 2) (m := j) (n := 64) (by omega) h

/-- a block's bit in its word -/
theorem wd_or (f : Nat → Bool) (b : Nat) : wd f (b / 64) ||| 2 ^ (b % 64) = wd (upd f b true) (b / 64) := by
  apply is_wd
  intro i
  rw [Nat.testBit_or, wd_bit, pow_bit]
  unfold upd
  by_cases h : 64 * (b / 64) + i = b
  · have e : b % 64 = i := by omega
    have e2 : i < 64 := by omega
    simp [h, e, e2]
  · by_cases hi : i < 64
    · have e : ¬ b % 64 = i := by omega
      simp [h, e]
    · have e : ¬ b % 64 = i := by omega
      simp [e, hi]
theorem wd_andNot (f : Nat → Bool) (b : Nat) : wd f (b / 64) &&& (18446744073709551615 - 2 ^ (b % 64)) = wd (upd f b false) (b / 64) := by
  apply is_wd
  intro i
  rw [Nat.testBit_and, wd_bit, not_bit _ _ (pow_lt64 (Nat.mod_lt _ (by omega))), pow_bit]
  unfold upd
  by_cases h : 64 * (b / 64) + i = b
  · have e : b % 64 = i := by omega
    simp [h, e]
  · by_cases hi : i < 64
    · have e : ¬ b % 64 = i := by omega
      simp [h, e, hi]
    · simp [hi]
theorem wd_upd_other (f : Nat → Bool) (b k : Nat) (v : Bool) (h : k ≠ b / 64) : wd (upd f b v) k = wd f k := by
  apply wd_congr
  intro i hi
  unfold upd
  rw [if_neg (by omega)]
theorem wd_has (f : Nat → Bool) (b : Nat) : wd f (b / 64) &&& 2 ^ (b % 64) = if f b then 2 ^ (b % 64) else 0 := by
  apply Nat.eq_of_testBit_eq
  intro i
  have e : 64 * (b / 64) + b % 64 = b := by omega
  have e2 : b % 64 < 64 := Nat.mod_lt _ (by omega)
  rw [Nat.testBit_and, wd_bit, pow_bit]
  by_cases h : b % 64 = i
  · subst h
    rw [e]
    cases f b <;> simp [e2]
  · cases f b <;> simp [h]

/-! How many. -/
def cnt (f : Nat → Bool) : Nat → Nat
  | 0 => 0
  | n + 1 => cnt f n + if f n then 1 else 0
def pop (x : Nat) : Nat → Nat
  | 0 => 0
  | n + 1 => pop x n + if x.testBit n then 1 else 0
theorem cnt_le (f : Nat → Bool) : ∀ n, cnt f n ≤ n
  | 0 => by simp [cnt]
  | n + 1 => by have := cnt_le f n; rw [cnt]; split <;> omega
theorem cnt_congr {f g : Nat → Bool} : ∀ {n : Nat}, (∀ i, i < n → f i = g i) → cnt f n = cnt g n
  | 0, _ => rfl
  | n + 1, h => by rw [cnt, cnt, cnt_congr (fun i hi => h i (by omega)), h n (by omega)]
theorem pop_wd (f : Nat → Bool) (k : Nat) : ∀ n, n ≤ 64 → cnt f (64 * k + n) = cnt f (64 * k) + pop (wd f k) n
  | 0, _ => rfl
  | n + 1, h => by
    have ih := pop_wd f k n (by omega)
    rw [← Nat.add_assoc, cnt, ih, pop, wd_bit, Nat.add_assoc]
    have : n < 64 := by omega
    simp [this]
theorem cnt_word (f : Nat → Bool) (k : Nat) : cnt f (64 * (k + 1)) = cnt f (64 * k) + pop (wd f k) 64 := by
  have := pop_wd f k 64 (Nat.le_refl _)
  rwa [show 64 * (k + 1) = 64 * k + 64 by omega]
theorem cnt_far {f : Nat → Bool} {n : Nat} (h : ∀ b, n ≤ b → f b = false) : ∀ m, n ≤ m → cnt f m = cnt f n
  | 0, hm => by obtain rfl : n = 0 := by omega
                rfl
  | m + 1, hm => by
    by_cases e : n = m + 1
    · rw [e]
    · rw [cnt, cnt_far h m (by omega), h m (by omega)]
      simp
theorem pop_le (x : Nat) : ∀ n, pop x n ≤ n
  | 0 => by simp [pop]
  | n + 1 => by have := pop_le x n; rw [pop]; split <;> omega

/-! A word's ones, as math/bits counts them. -/
def le : List Nat → Nat
  | [] => 0
  | b :: l => b + 256 * le l
theorem and_cons (b m y z : Nat) (hb : b < 256) (hm : m < 256) : (b + 256 * y) &&& (m + 256 * z) = (b &&& m) + 256 * (y &&& z) := by
  have e : ∀ a c : Nat, a < 256 → a + 256 * c = 2 ^ 8 * c + a := fun a c _ => by omega
  have hbm : b &&& m < 256 := Nat.and_lt_two_pow (n := 8) _ hm
  rw [e b y hb, e m z hm, e _ _ hbm]
  apply Nat.eq_of_testBit_eq
  intro i
  rw [Nat.testBit_and, Nat.testBit_two_pow_mul_add _ (show b < 2 ^ 8 from hb), Nat.testBit_two_pow_mul_add _ (show m < 2 ^ 8 from hm), Nat.testBit_two_pow_mul_add _ (show b &&& m < 2 ^ 8 from hbm)]
  split
  · rw [Nat.testBit_and]
  · rw [Nat.testBit_and]
def msk (m : Nat) : Nat → Nat
  | 0 => 0
  | n + 1 => m + 256 * msk m n
def s1 (b : Nat) : Nat := (b / 2 &&& 85) + (b &&& 85)
def s2 (b : Nat) : Nat := (b / 4 &&& 51) + (b &&& 51)
theorem s1_low : ∀ b, b < 256 → ∀ y, y < 2 → (b / 2 + 128 * y) &&& 85 = b / 2 &&& 85 := by decide +kernel
theorem s2_low : ∀ b, b < 256 → ∀ y, y < 4 → (b / 4 + 64 * y) &&& 51 = b / 4 &&& 51 := by decide +kernel
theorem s1_all (l : List Nat) (h : ∀ b ∈ l, b < 256) : (le l / 2 &&& msk 85 l.length) + (le l &&& msk 85 l.length) = le (l.map s1) := by
  induction l with
  | nil => rfl
  | cons b l ih =>
    have ih := ih (fun x hx => h x (List.mem_cons_of_mem _ hx))
    have hb := h b (List.mem_cons_self ..)
    simp only [List.length_cons, List.map_cons, le, msk]
    have e : (b + 256 * le l) / 2 = (b / 2 + 128 * (le l % 2)) + 256 * (le l / 2) := by omega
    rw [e, and_cons _ _ _ _ (by omega) (by omega), and_cons _ _ _ _ hb (by omega), s1_low b hb _ (by omega), ← ih]
    unfold s1
    omega
theorem s2_all (l : List Nat) (h : ∀ b ∈ l, b < 256) : (le l / 4 &&& msk 51 l.length) + (le l &&& msk 51 l.length) = le (l.map s2) := by
  induction l with
  | nil => rfl
  | cons b l ih =>
    have ih := ih (fun x hx => h x (List.mem_cons_of_mem _ hx))
    have hb := h b (List.mem_cons_self ..)
    simp only [List.length_cons, List.map_cons, le, msk]
    have e : (b + 256 * le l) / 4 = (b / 4 + 64 * (le l % 4)) + 256 * (le l / 4) := by omega
    rw [e, and_cons _ _ _ _ (by omega) (by omega), and_cons _ _ _ _ hb (by omega), s2_low b hb _ (by omega), ← ih]
    unfold s2
    omega
/-- a byte whose two halves are at most 4 -/
def Nib (b : Nat) : Prop := b % 16 ≤ 4 ∧ b / 16 ≤ 4
theorem le_low (l : List Nat) (h : ∀ b ∈ l, Nib b) : le l % 16 ≤ 4 := by
  cases l with
  | nil => simp [le]
  | cons b l => have := (h b (List.mem_cons_self ..)).1; rw [le]; omega
theorem s3_all (l : List Nat) (h : ∀ b ∈ l, Nib b) : (le l / 16 + le l) &&& msk 15 l.length = le (l.map fun b => b % 16 + b / 16) := by
  induction l with
  | nil => rfl
  | cons b l ih =>
    have hl := fun x hx => h x (List.mem_cons_of_mem _ hx)
    have ih := ih hl
    have hb := h b (List.mem_cons_self ..)
    have hlow := le_low l hl
    simp only [List.length_cons, List.map_cons, le, msk]
    obtain ⟨h1, h2⟩ := hb
    have e : (b + 256 * le l) / 16 + (b + 256 * le l) = (b / 16 + b + 16 * (le l % 16)) + 256 * (le l / 16 + le l) := by omega
    rw [e, and_cons _ _ _ _ (by omega) (by omega), ih]
    have e2 : (b / 16 + b + 16 * (le l % 16)) &&& 15 = b % 16 + b / 16 := by
      rw [show (15 : Nat) = 2 ^ 4 - 1 from rfl, Nat.and_two_pow_sub_one_eq_mod]
      omega
    rw [e2]
theorem tb (b y : Nat) (hb : b < 256) (i : Nat) : (b + 256 * y).testBit i = if i < 8 then b.testBit i else y.testBit (i - 8) := by
  rw [show b + 256 * y = 2 ^ 8 * y + b by omega, Nat.testBit_two_pow_mul_add _ (show b < 2 ^ 8 from hb)]
theorem pop_low (b y : Nat) (hb : b < 256) : ∀ n, n ≤ 8 → pop (b + 256 * y) n = pop b n
  | 0, _ => rfl
  | n + 1, h => by
    rw [pop, pop, pop_low b y hb n (by omega), tb b y hb, if_pos (show n < 8 by omega)]
theorem pop_cons (b y : Nat) (hb : b < 256) : ∀ n, pop (b + 256 * y) (n + 8) = pop b 8 + pop y n
  | 0 => by rw [Nat.zero_add, pop_low b y hb 8 (Nat.le_refl _)]; rfl
  | n + 1 => by
    have e : pop (b + 256 * y) (n + 1 + 8) = pop (b + 256 * y) (n + 8) + if (b + 256 * y).testBit (n + 8) then 1 else 0 := rfl
    have e2 : pop y (n + 1) = pop y n + if y.testBit n then 1 else 0 := rfl
    rw [e, e2, pop_cons b y hb n, tb b y hb, if_neg (show ¬ n + 8 < 8 by omega), show n + 8 - 8 = n by omega]
    omega
theorem byte_all : ∀ b, b < 256 → s1 b < 256 ∧ s2 (s1 b) % 16 ≤ 4 ∧ s2 (s1 b) / 16 ≤ 4 ∧ s2 (s1 b) % 16 + s2 (s1 b) / 16 = pop b 8 ∧ pop b 8 ≤ 8 := by decide +kernel

theorem bytes_of (x : Nat) (h : x < 18446744073709551616) : ∃ b0 b1 b2 b3 b4 b5 b6 b7 : Nat, (b0 < 256 ∧ b1 < 256 ∧ b2 < 256 ∧ b3 < 256 ∧ b4 < 256 ∧ b5 < 256 ∧ b6 < 256 ∧ b7 < 256) ∧ x = le [b0, b1, b2, b3, b4, b5, b6, b7] := by
  refine ⟨x % 256, x / 256 % 256, x / 256 / 256 % 256, x / 256 / 256 / 256 % 256, x / 256 / 256 / 256 / 256 % 256, x / 256 / 256 / 256 / 256 / 256 % 256, x / 256 / 256 / 256 / 256 / 256 / 256 % 256, x / 256 / 256 / 256 / 256 / 256 / 256 / 256, by omega, ?_⟩
  simp only [le]
  omega

theorem le8 (b0 b1 b2 b3 b4 b5 b6 b7 : Nat) (h : b0 < 256 ∧ b1 < 256 ∧ b2 < 256 ∧ b3 < 256 ∧ b4 < 256 ∧ b5 < 256 ∧ b6 < 256 ∧ b7 < 256) : le [b0, b1, b2, b3, b4, b5, b6, b7] < 18446744073709551616 := by
  simp only [le]
  omega
theorem le8' (b0 b1 b2 b3 b4 b5 b6 b7 : Nat) (h : b0 < 256 ∧ b1 < 256 ∧ b2 < 256 ∧ b3 < 256 ∧ b4 < 256 ∧ b5 < 256 ∧ b6 < 256 ∧ b7 < 128) : le [b0, b1, b2, b3, b4, b5, b6, b7] < 9223372036854775808 := by
  simp only [le]
  omega
/-- the steps of OnesCount64 -/
def o1 (x : Nat) : Nat := (x / 2 &&& 6148914691236517205) + (x &&& 6148914691236517205)
def o2 (x : Nat) : Nat := (x / 4 &&& 3689348814741910323) + (x &&& 3689348814741910323)
def o3 (x : Nat) : Nat := (x / 16 + x) &&& 1085102592571150095
theorem ones (x : Nat) (h : x < 18446744073709551616) : o1 x < 18446744073709551616 ∧ o2 (o1 x) < 18446744073709551616 ∧ o2 (o1 x) / 16 + o2 (o1 x) < 18446744073709551616 ∧
    ∃ e0 e1 e2 e3 e4 e5 e6 e7 : Nat, (e0 ≤ 8 ∧ e1 ≤ 8 ∧ e2 ≤ 8 ∧ e3 ≤ 8 ∧ e4 ≤ 8 ∧ e5 ≤ 8 ∧ e6 ≤ 8 ∧ e7 ≤ 8) ∧ o3 (o2 (o1 x)) = le [e0, e1, e2, e3, e4, e5, e6, e7] ∧ e0 + e1 + e2 + e3 + e4 + e5 + e6 + e7 = pop x 64 := by
  obtain ⟨b0, b1, b2, b3, b4, b5, b6, b7, ⟨h0, h1, h2, h3, h4, h5, h6, h7⟩, rfl⟩ := bytes_of x h
  have a1 := s1_all [b0, b1, b2, b3, b4, b5, b6, b7] (by simp only [List.mem_cons, List.not_mem_nil, or_false]; omega)
  have k0 := byte_all b0 h0
  have k1 := byte_all b1 h1
  have k2 := byte_all b2 h2
  have k3 := byte_all b3 h3
  have k4 := byte_all b4 h4
  have k5 := byte_all b5 h5
  have k6 := byte_all b6 h6
  have k7 := byte_all b7 h7
  have e1 : o1 (le [b0, b1, b2, b3, b4, b5, b6, b7]) = le [s1 b0, s1 b1, s1 b2, s1 b3, s1 b4, s1 b5, s1 b6, s1 b7] := a1
  have a2 := s2_all [s1 b0, s1 b1, s1 b2, s1 b3, s1 b4, s1 b5, s1 b6, s1 b7] (by simp only [List.mem_cons, List.not_mem_nil, or_false]; omega)
  have e2 : o2 (le [s1 b0, s1 b1, s1 b2, s1 b3, s1 b4, s1 b5, s1 b6, s1 b7]) = le [s2 (s1 b0), s2 (s1 b1), s2 (s1 b2), s2 (s1 b3), s2 (s1 b4), s2 (s1 b5), s2 (s1 b6), s2 (s1 b7)] := a2
  have a3 := s3_all [s2 (s1 b0), s2 (s1 b1), s2 (s1 b2), s2 (s1 b3), s2 (s1 b4), s2 (s1 b5), s2 (s1 b6), s2 (s1 b7)] (by
    simp only [List.mem_cons, List.not_mem_nil, or_false, Nib]
    rintro b (rfl | rfl | rfl | rfl | rfl | rfl | rfl | rfl)
    · exact ⟨k0.2.1, k0.2.2.1⟩
    · exact ⟨k1.2.1, k1.2.2.1⟩
    · exact ⟨k2.2.1, k2.2.2.1⟩
    · exact ⟨k3.2.1, k3.2.2.1⟩
    · exact ⟨k4.2.1, k4.2.2.1⟩
    · exact ⟨k5.2.1, k5.2.2.1⟩
    · exact ⟨k6.2.1, k6.2.2.1⟩
    · exact ⟨k7.2.1, k7.2.2.1⟩)
  have p0 := pop_cons b0 (le [b1, b2, b3, b4, b5, b6, b7]) h0 56
  have p1 := pop_cons b1 (le [b2, b3, b4, b5, b6, b7]) h1 48
  have p2 := pop_cons b2 (le [b3, b4, b5, b6, b7]) h2 40
  have p3 := pop_cons b3 (le [b4, b5, b6, b7]) h3 32
  have p4 := pop_cons b4 (le [b5, b6, b7]) h4 24
  have p5 := pop_cons b5 (le [b6, b7]) h5 16
  have p6 := pop_cons b6 (le [b7]) h6 8
  have p7 := pop_cons b7 (le []) h7 0
  have hp : pop (le [b0, b1, b2, b3, b4, b5, b6, b7]) 64 = pop b0 8 + (pop b1 8 + (pop b2 8 + (pop b3 8 + (pop b4 8 + (pop b5 8 + (pop b6 8 + (pop b7 8 + 0))))))) :=
    p0.trans (congrArg _ (p1.trans (congrArg _ (p2.trans (congrArg _ (p3.trans (congrArg _ (p4.trans (congrArg _ (p5.trans (congrArg _ (p6.trans (congrArg _ p7)))))))))))))
  have e3 : o3 (le [s2 (s1 b0), s2 (s1 b1), s2 (s1 b2), s2 (s1 b3), s2 (s1 b4), s2 (s1 b5), s2 (s1 b6), s2 (s1 b7)]) = le [pop b0 8, pop b1 8, pop b2 8, pop b3 8, pop b4 8, pop b5 8, pop b6 8, pop b7 8] := by
    refine a3.trans ?_
    simp only [List.map_cons, List.map_nil, k0.2.2.2.1, k1.2.2.2.1, k2.2.2.2.1, k3.2.2.2.1, k4.2.2.2.1, k5.2.2.2.1, k6.2.2.2.1, k7.2.2.2.1]
  rw [e1, e2, e3]
  refine ⟨?_, ?_, ?_, pop b0 8, pop b1 8, pop b2 8, pop b3 8, pop b4 8, pop b5 8, pop b6 8, pop b7 8, ⟨k0.2.2.2.2, k1.2.2.2.2, k2.2.2.2.2, k3.2.2.2.2, k4.2.2.2.2, k5.2.2.2.2, k6.2.2.2.2, k7.2.2.2.2⟩, rfl, ?_⟩
  · exact le8 _ _ _ _ _ _ _ _ ⟨k0.1, k1.1, k2.1, k3.1, k4.1, k5.1, k6.1, k7.1⟩
  · clear a1 a2 a3 e1 e2 e3 hp p0 p1 p2 p3 p4 p5 p6 p7 h
    exact le8 _ _ _ _ _ _ _ _ (by omega)
  · have hh := le8' (s2 (s1 b0)) (s2 (s1 b1)) (s2 (s1 b2)) (s2 (s1 b3)) (s2 (s1 b4)) (s2 (s1 b5)) (s2 (s1 b6)) (s2 (s1 b7)) (by
      clear a1 a2 a3 e1 e2 e3 hp p0 p1 p2 p3 p4 p5 p6 p7 h
      omega)
    clear a1 a2 a3 e1 e2 e3 hp p0 p1 p2 p3 p4 p5 p6 p7 h
    generalize le [s2 (s1 b0), s2 (s1 b1), s2 (s1 b2), s2 (s1 b3), s2 (s1 b4), s2 (s1 b5), s2 (s1 b6), s2 (s1 b7)] = Z at *
    omega
  · rw [hp]; simp only [Nat.add_assoc, Nat.add_zero]
theorem div1 (a r : Nat) (ha : a < 256) : (a + 256 * r) / 256 = r := by omega
theorem div2 (a b r : Nat) (ha : a < 256) (hb : b < 256) : (a + 256 * (b + 256 * r)) / 65536 = r := by omega
theorem div4 (a b c d r : Nat) (ha : a < 256) (hb : b < 256) (hc : c < 256) (hd : d < 256) : (a + 256 * (b + 256 * (c + 256 * (d + 256 * r)))) / 4294967296 = r := by omega
theorem fold8 (e0 e1 e2 e3 e4 e5 e6 e7 : Nat) (h : e0 ≤ 8 ∧ e1 ≤ 8 ∧ e2 ≤ 8 ∧ e3 ≤ 8 ∧ e4 ≤ 8 ∧ e5 ≤ 8 ∧ e6 ≤ 8 ∧ e7 ≤ 8) :
    ∃ y z u : Nat, y = le [e0, e1, e2, e3, e4, e5, e6, e7] + le [e0, e1, e2, e3, e4, e5, e6, e7] / 256 ∧ z = y + y / 65536 ∧ u = z + z / 4294967296 ∧ u < 9223372036854775808 ∧ u % 128 = e0 + e1 + e2 + e3 + e4 + e5 + e6 + e7 := by
  refine ⟨(e0 + e1) + 256 * ((e1 + e2) + 256 * ((e2 + e3) + 256 * ((e3 + e4) + 256 * ((e4 + e5) + 256 * ((e5 + e6) + 256 * ((e6 + e7) + 256 * ((e7)))))))), (e0 + e1 + e2 + e3) + 256 * ((e1 + e2 + e3 + e4) + 256 * ((e2 + e3 + e4 + e5) + 256 * ((e3 + e4 + e5 + e6) + 256 * ((e4 + e5 + e6 + e7) + 256 * ((e5 + e6 + e7) + 256 * ((e6 + e7) + 256 * ((e7)))))))), (e0 + e1 + e2 + e3 + e4 + e5 + e6 + e7) + 256 * ((e1 + e2 + e3 + e4 + e5 + e6 + e7) + 256 * ((e2 + e3 + e4 + e5 + e6 + e7) + 256 * ((e3 + e4 + e5 + e6 + e7) + 256 * ((e4 + e5 + e6 + e7) + 256 * ((e5 + e6 + e7) + 256 * ((e6 + e7) + 256 * ((e7)))))))), ?_, ?_, ?_, ?_, ?_⟩
  · simp only [le]
    rw [div1 _ _ (by omega)]
    omega
  · rw [div2 _ _ _ (by omega) (by omega)]
    omega
  · rw [div4 _ _ _ _ _ (by omega) (by omega) (by omega) (by omega)]
    omega
  · omega
  · omega

/-! The next one. -/
def nxt (f : Nat → Bool) (u : Bool) : Nat → Nat → Int
  | 0, _ => -1
  | k + 1, b => if f b = u then (b : Int) else nxt f u k (b + 1)
/-- the least block from s on, of n, that is as u -/
def next (f : Nat → Bool) (u : Bool) (n s : Nat) : Int := nxt f u (n - s) s
def Nx (f : Nat → Bool) (u : Bool) (n s : Nat) (r : Int) : Prop :=
  (r = -1 ∧ ∀ b, s ≤ b → b < n → f b ≠ u) ∨ ∃ b : Nat, r = (b : Int) ∧ s ≤ b ∧ b < n ∧ f b = u ∧ ∀ c, s ≤ c → c < b → f c ≠ u
theorem nxt_is (f : Nat → Bool) (u : Bool) : ∀ k s, Nx f u (s + k) s (nxt f u k s)
  | 0, s => .inl ⟨rfl, fun b h1 h2 => by omega⟩
  | k + 1, s => by
    rw [nxt]
    by_cases h : f s = u
    · rw [if_pos h]
      exact .inr ⟨s, rfl, Nat.le_refl _, by omega, h, fun c h1 h2 => by omega⟩
    · rw [if_neg h]
      rcases nxt_is f u k (s + 1) with ⟨e, h2⟩ | ⟨b, e, h1, h2, h3, h4⟩
      · refine .inl ⟨e, fun b h3 h4 => ?_⟩
        by_cases hb : b = s
        · subst hb; exact h
        · exact h2 b (by omega) (by omega)
      · refine .inr ⟨b, e, by omega, by omega, h3, fun c h5 h6 => ?_⟩
        by_cases hb : c = s
        · subst hb; exact h
        · exact h4 c (by omega) h6
theorem next_is (f : Nat → Bool) (u : Bool) (n s : Nat) : Nx f u n s (next f u n s) := by
  by_cases h : s ≤ n
  · have := nxt_is f u (n - s) s
    rwa [show s + (n - s) = n by omega] at this
  · unfold next
    rw [show n - s = 0 by omega]
    exact .inl ⟨rfl, fun b h1 h2 => by omega⟩
theorem Nx.eq {f : Nat → Bool} {u : Bool} {n s : Nat} {r r' : Int} (h : Nx f u n s r) (h' : Nx f u n s r') : r = r' := by
  rcases h with ⟨e, h⟩ | ⟨b, e, h1, h2, h3, h4⟩ <;> rcases h' with ⟨e', g⟩ | ⟨c, e', g1, g2, g3, g4⟩
  · rw [e, e']
  · exact absurd g3 (h c g1 g2)
  · exact absurd h3 (g b h1 h2)
  · rcases Nat.lt_trichotomy b c with hl | hl | hl
    · exact absurd h3 (g4 b h1 hl)
    · rw [e, e', hl]
    · exact absurd g3 (h4 c g1 hl)
theorem Nx.next {f : Nat → Bool} {u : Bool} {n s : Nat} {r : Int} (h : Nx f u n s r) : r = next f u n s := h.eq (next_is f u n s)
theorem next_lt (f : Nat → Bool) (u : Bool) (n s : Nat) : -1 ≤ next f u n s ∧ next f u n s < n ∨ next f u n s = -1 := by
  rcases next_is f u n s with ⟨e, _⟩ | ⟨b, e, h1, h2, _⟩
  · exact .inr e
  · exact .inl (by omega)

/-- the least bit -/
theorem ctz_bit (x : Nat) (h0 : x ≠ 0) (h : x < 18446744073709551616) : x.testBit (Lib.ctz 64 x) = true ∧ (∀ j, j < Lib.ctz 64 x → x.testBit j = false) ∧ Lib.ctz 64 x < 64 := by
  obtain ⟨m, hm, hk⟩ := Lib.ctzFrom_spec 64 x (by omega) h
  have e : Lib.ctz 64 x = Lib.ctzFrom 64 x := by simp [Lib.ctz, h0]
  rw [e]
  generalize Lib.ctzFrom 64 x = c at *
  subst hm
  refine ⟨?_, fun j hj => ?_, hk⟩
  · rw [Nat.mul_comm, Nat.testBit_mul_two_pow]
    simp [Nat.testBit_zero]
  · rw [Nat.mul_comm, Nat.testBit_mul_two_pow]
    simp; omega

/-- a word's bits that are as u, from s on -/
def fro (f : Nat → Bool) (u : Bool) (s : Nat) (b : Nat) : Bool := (f b == u) && decide (s ≤ b)
theorem wd_fro (f : Nat → Bool) (u : Bool) (s k : Nat) (h : s - 64 * k < 64) : wd (fun b => f b == u) k &&& (18446744073709551615 - (2 ^ (s - 64 * k) - 1)) = wd (fro f u s) k := by
  apply is_wd
  intro i
  have hl : 2 ^ (s - 64 * k) - 1 < 18446744073709551616 := by have := pow_lt64 h; omega
  rw [Nat.testBit_and, wd_bit, not_bit _ _ hl, Nat.testBit_two_pow_sub_one]
  unfold fro
  by_cases hi : i < 64
  · have : (!decide (i < s - 64 * k)) = decide (s ≤ 64 * k + i) := by
      rw [← decide_not, decide_eq_decide]
      omega
    simp [hi, this]
  · simp [hi]
theorem wd_used (f : Nat → Bool) (k : Nat) : wd (fun b => f b == true) k = wd f k := wd_congr (fun i _ => by simp)
theorem wd_free (f : Nat → Bool) (k : Nat) : 18446744073709551615 - wd f k = wd (fun b => f b == false) k := by
  apply is_wd
  intro i
  rw [not_bit _ _ (wd_lt f k), wd_bit]
  by_cases hi : i < 64 <;> simp [hi]
/-- a word without one: on to the next word -/
theorem fro_none {f : Nat → Bool} {u : Bool} {s k : Nat} (h : wd (fro f u s) k = 0) (b : Nat) (h1 : 64 * k ≤ b) (h2 : b < 64 * (k + 1)) (h3 : s ≤ b) : f b ≠ u := by
  have := congrArg (fun x => Nat.testBit x (b - 64 * k)) h
  simp only [wd_bit, Nat.zero_testBit] at this
  rw [show 64 * k + (b - 64 * k) = b by omega] at this
  unfold fro at this
  have e : b - 64 * k < 64 := by omega
  simpa [e, h3] using this
/-- a word with one -/
theorem fro_some {f : Nat → Bool} {u : Bool} {n s k : Nat} (hp : ∀ b, s ≤ b → b < 64 * k → b < n → f b ≠ u) (h : wd (fro f u s) k ≠ 0) : Nx f u n s (if 64 * k + Lib.ctz 64 (wd (fro f u s) k) < n then ((64 * k + Lib.ctz 64 (wd (fro f u s) k) : Nat) : Int) else -1) ∧ Lib.ctz 64 (wd (fro f u s) k) < 64 := by
  obtain ⟨h1, h2, h3⟩ := ctz_bit _ h (wd_lt _ _)
  refine ⟨?_, h3⟩
  rw [wd_bit] at h1
  generalize Lib.ctz 64 (wd (fro f u s) k) = c at *
  simp only [h3, decide_true, Bool.true_and, fro, Bool.and_eq_true, beq_iff_eq, decide_eq_true_eq] at h1
  have hq : ∀ b, s ≤ b → b < 64 * k + c → b < n → f b ≠ u := by
    intro b g1 g2 g3
    by_cases hb : b < 64 * k
    · exact hp b g1 hb g3
    · have := h2 (b - 64 * k) (by omega)
      rw [wd_bit, show 64 * k + (b - 64 * k) = b by omega] at this
      have e : b - 64 * k < 64 := by omega
      unfold fro at this
      simpa [e, g1] using this
  split
  · rename_i hlt
    exact .inr ⟨_, rfl, h1.2, hlt, h1.1, fun d g1 g2 => hq d g1 g2 (by omega)⟩
  · rename_i hlt
    exact .inl ⟨rfl, fun b g1 g2 => hq b g1 (by omega) g2⟩
end Bm
end Go.Proofs.YtblibjjnbbleeaaDoor
