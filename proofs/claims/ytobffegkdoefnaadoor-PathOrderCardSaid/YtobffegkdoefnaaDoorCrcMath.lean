/- Sums that take bits from the lowest on, as numbers: what a row of bytes sums to, and that neighbouring bits which are turned are told. -/
import Derived.KernelRfl
namespace Go.Proofs.YtobffegkdoefnaaDoor
namespace Crc

/-- one step of the sum: the lowest bit falls off -/
def A (p x : Nat) : Nat := x / 2 ^^^ (if x % 2 = 1 then p else 0)

/-- so many steps -/
def it (p : Nat) : Nat → Nat → Nat
  | 0, x => x
  | k + 1, x => it p k (A p x)

theorem half_xor (x y : Nat) : (x ^^^ y) / 2 = x / 2 ^^^ y / 2 := by
  apply Nat.eq_of_testBit_eq
  intro i
  rw [Nat.testBit_div_two, Nat.testBit_xor, Nat.testBit_xor, Nat.testBit_div_two, Nat.testBit_div_two]

theorem odd_xor (x y : Nat) : (x ^^^ y) % 2 = (x % 2 + y % 2) % 2 := by
  have h : (x ^^^ y).testBit 0 = (x.testBit 0 ^^ y.testBit 0) := Nat.testBit_xor ..
  simp only [Nat.testBit_zero] at h
  rcases Nat.mod_two_eq_zero_or_one x with hx | hx <;> rcases Nat.mod_two_eq_zero_or_one y with hy | hy <;> rcases Nat.mod_two_eq_zero_or_one (x ^^^ y) with hz | hz <;> simp [hx, hy, hz] at h ⊢

theorem A_xor (p x y : Nat) : A p (x ^^^ y) = A p x ^^^ A p y := by
  unfold A
  rw [half_xor, odd_xor]
  generalize x / 2 = a
  generalize y / 2 = b
  apply Nat.eq_of_testBit_eq
  intro i
  rcases Nat.mod_two_eq_zero_or_one x with hx | hx <;> rcases Nat.mod_two_eq_zero_or_one y with hy | hy <;> simp [hx, hy, Nat.testBit_xor] <;> cases a.testBit i <;> cases b.testBit i <;> cases p.testBit i <;> rfl

theorem A_double (p x : Nat) : A p (x * 2) = x := by
  unfold A
  simp

theorem A_zero (p : Nat) : A p 0 = 0 := by simp [A]

theorem it_xor (p k : Nat) : ∀ x y, it p k (x ^^^ y) = it p k x ^^^ it p k y := by
  induction k with
  | zero => exact fun _ _ => rfl
  | succ k ih => exact fun x y => by simp only [it]; rw [A_xor, ih]

theorem it_zero (p k : Nat) : it p k 0 = 0 := by
  induction k with
  | zero => rfl
  | succ k ih => simp only [it]; rw [A_zero, ih]

theorem it_add (p a b : Nat) : ∀ x, it p (a + b) x = it p b (it p a x) := by
  induction a with
  | zero => intro x; rw [Nat.zero_add]; rfl
  | succ a ih => intro x; rw [Nat.succ_add]; simp only [it]; exact ih _

theorem it_last (p k x : Nat) : it p (k + 1) x = A p (it p k x) := by rw [it_add]; rfl

theorem it_shift (p k : Nat) : ∀ x, it p k (x * 2 ^ k) = x := by
  induction k with
  | zero => intro x; simp [it]
  | succ k ih =>
    intro x
    simp only [it]
    rw [Nat.pow_succ, ← Nat.mul_assoc, A_double, ih]

theorem A_lt {p x w : Nat} (hp : p < 2 ^ w) (hx : x < 2 ^ w) : A p x < 2 ^ w := by
  unfold A
  refine Nat.xor_lt_two_pow (by omega) ?_
  split <;> omega

theorem A_ne {p x w : Nat} (hp : p.testBit w = true) (hx : x < 2 ^ (w + 1)) (h0 : x ≠ 0) : A p x ≠ 0 := by
  unfold A
  intro h
  split at h
  · have h1 : (x / 2 ^^^ p).testBit w = false := by rw [h]; simp
    rw [Nat.testBit_xor, hp, Nat.testBit_lt_two_pow (by rw [Nat.pow_succ] at hx; omega)] at h1
    simp at h1
  · simp at h
    omega

theorem it_lt {p w : Nat} (hp : p < 2 ^ w) (k : Nat) : ∀ x, x < 2 ^ w → it p k x < 2 ^ w := by
  induction k with
  | zero => exact fun _ h => h
  | succ k ih => exact fun x h => ih _ (A_lt hp h)

theorem it_ne {p w : Nat} (hp : p < 2 ^ (w + 1)) (ht : p.testBit w = true) (k : Nat) : ∀ x, x < 2 ^ (w + 1) → x ≠ 0 → it p k x ≠ 0 := by
  induction k with
  | zero => exact fun _ _ h => h
  | succ k ih => exact fun x h h0 => ih _ (A_lt hp h) (A_ne ht h h0)

/-- the sum with one byte more -/
def nx (p r b : Nat) : Nat := it p 8 (r ^^^ b)

/-- the sum of bytes behind what was summed -/
def sm (p r : Nat) (l : List Nat) : Nat := l.foldl (nx p) r

/-- bytes as one number, the lowest first -/
def le : List Nat → Nat
  | [] => 0
  | b :: l => b + 256 * le l

/-- all are bytes -/
def Byt (l : List Nat) : Prop := ∀ b ∈ l, b < 256

theorem Byt.cons {b : Nat} {l : List Nat} (h : Byt (b :: l)) : b < 256 ∧ Byt l := ⟨h b (List.mem_cons_self ..), fun c hc => h c (List.mem_cons_of_mem _ hc)⟩

theorem bit_cons {b : Nat} (hb : b < 256) (x i : Nat) : (b + 256 * x).testBit i = if i < 8 then b.testBit i else x.testBit (i - 8) := by
  rw [Nat.add_comm]
  exact Nat.testBit_two_pow_mul_add x (i := 8) (by omega) i

theorem cons_xor {b : Nat} (hb : b < 256) (x : Nat) : b + 256 * x = b ^^^ x * 2 ^ 8 := by
  apply Nat.eq_of_testBit_eq
  intro i
  rw [bit_cons hb, Nat.testBit_xor, Nat.testBit_mul_two_pow]
  by_cases h : i < 8
  · simp [h, Nat.not_le.2 h]
  · have h8 : b.testBit i = false := Nat.testBit_lt_two_pow (Nat.lt_of_lt_of_le hb (Nat.pow_le_pow_right (n := 2) (by omega) (by omega : 8 ≤ i)))
    simp [h, h8, Nat.not_lt.1 h]

theorem sm_eq (p : Nat) (l : List Nat) : ∀ r, Byt l → sm p r l = it p (8 * l.length) (r ^^^ le l) := by
  induction l with
  | nil => intro r _; simp [sm, le, it]
  | cons b l ih =>
    intro r h
    have hb := h.cons
    have e : sm p r (b :: l) = sm p (nx p r b) l := rfl
    rw [e, ih _ hb.2]
    have e2 : 8 * (b :: l).length = 8 + 8 * l.length := by rw [List.length_cons]; omega
    rw [e2, it_add]
    congr 1
    show nx p r b ^^^ le l = it p 8 (r ^^^ (b + 256 * le l))
    rw [cons_xor hb.1, ← Nat.xor_assoc, it_xor, it_shift]
    rfl

theorem sm_append (p r : Nat) (l m : List Nat) : sm p r (l ++ m) = sm p (sm p r l) m := List.foldl_append ..

theorem bit_le (l : List Nat) : ∀ i, Byt l → i < 8 * l.length → (le l).testBit i = (l[i / 8]?.getD 0).testBit (i % 8) := by
  induction l with
  | nil => intro i _ h; simp at h
  | cons b l ih =>
    intro i h hi
    have hb := h.cons
    show (b + 256 * le l).testBit i = _
    rw [bit_cons hb.1]
    by_cases h8 : i < 8
    · have e0 : i / 8 = 0 := by omega
      have e1 : i % 8 = i := by omega
      simp [h8, e0, e1]
    · rw [List.length_cons] at hi
      have e0 : i / 8 = (i - 8) / 8 + 1 := by omega
      have e1 : i % 8 = (i - 8) % 8 := by omega
      rw [if_neg h8, ih _ hb.2 (by omega), e0, e1, List.getElem?_cons_succ]

theorem le_lt (l : List Nat) : Byt l → le l < 2 ^ (8 * l.length) := by
  induction l with
  | nil => intro _; simp [le]
  | cons b l ih =>
    intro h
    have hb := h.cons
    have := ih hb.2
    show b + 256 * le l < _
    have e2 : 8 * (b :: l).length = 8 + 8 * l.length := by rw [List.length_cons]; omega
    rw [e2, Nat.pow_add]
    have := hb.1
    have : 2 ^ 8 = 256 := rfl
    omega

/-- one bit turned -/
theorem le_set (l : List Nat) : ∀ j t, Byt l → j < l.length → t < 8 → le (l.set j (l[j]?.getD 0 ^^^ 2 ^ t)) = le l ^^^ 2 ^ (8 * j + t) := by
  induction l with
  | nil => intro j t _ h; simp at h
  | cons b l ih =>
    intro j t h hj ht
    have hb := h.cons
    have hx : b ^^^ 2 ^ t < 256 := Nat.xor_lt_two_pow (n := 8) (by have := hb.1; omega) (Nat.pow_lt_pow_right (by omega) ht)
    cases j with
    | zero =>
      show (b ^^^ 2 ^ t) + 256 * le l = (b + 256 * le l) ^^^ 2 ^ (8 * 0 + t)
      rw [cons_xor hx, cons_xor hb.1, Nat.xor_assoc, Nat.xor_assoc, Nat.mul_zero, Nat.zero_add, Nat.xor_comm (2 ^ t)]
    | succ j =>
      rw [List.length_cons] at hj
      have e := ih j t hb.2 (by omega) ht
      rw [List.set_cons_succ, List.getElem?_cons_succ]
      show b + 256 * le (l.set j (l[j]?.getD 0 ^^^ 2 ^ t)) = (b + 256 * le l) ^^^ 2 ^ (8 * (j + 1) + t)
      rw [e, cons_xor hb.1, cons_xor hb.1, Nat.xor_assoc]
      congr 1
      have e3 : 2 ^ (8 * (j + 1) + t) = 2 ^ (8 * j + t) * 2 ^ 8 := by rw [← Nat.pow_add]; congr 1; omega
      rw [e3]
      apply Nat.eq_of_testBit_eq
      intro i
      simp only [Nat.testBit_mul_two_pow, Nat.testBit_xor]
      by_cases h8 : 8 ≤ i <;> simp [h8]

/-- neighbouring bits that are turned are told -/
theorem burst {p w : Nat} (hp : p < 2 ^ (w + 1)) (ht : p.testBit w = true) (r f m : Nat) (b c : List Nat) (hb : Byt b) (hc : Byt c) (hl : c.length = b.length) (hm : m < 2 ^ (w + 1)) (h0 : m ≠ 0) (hf : f ≤ 8 * b.length) (he : le c = le b ^^^ m * 2 ^ f) : sm p r c ≠ sm p r b := by
  rw [sm_eq p c r hc, sm_eq p b r hb, hl, he, ← Nat.xor_assoc, it_xor]
  intro h
  have h1 : it p (8 * b.length) (m * 2 ^ f) = 0 := by
    have := congrArg (it p (8 * b.length) (r ^^^ le b) ^^^ ·) h
    simpa [← Nat.xor_assoc] using this
  obtain ⟨k, hk⟩ : ∃ k, 8 * b.length = f + k := ⟨8 * b.length - f, by omega⟩
  rw [hk, it_add, it_shift] at h1
  exact it_ne hp ht k m hm h0 h1

/-- the sum, bit by bit -/
def ser (p r M : Nat) : Nat → Nat
  | 0 => r
  | k + 1 => A p (ser p r M k ^^^ (M / 2 ^ k % 2))

theorem ser_inv (p r M : Nat) : ∀ k, ser p r M k ^^^ M / 2 ^ k = it p k (r ^^^ M) := by
  intro k
  induction k with
  | zero => simp [ser, it]
  | succ k ih =>
    rw [it_last, ← ih]
    have e : M / 2 ^ k = (M / 2 ^ k % 2) ^^^ (M / 2 ^ (k + 1)) * 2 := by
      rw [Nat.pow_succ, ← Nat.div_div_eq_div_mul]
      generalize M / 2 ^ k = y
      apply Nat.eq_of_testBit_eq
      intro i
      have h2 : y / 2 * 2 = y / 2 * 2 ^ 1 := rfl
      rw [Nat.testBit_xor, h2, Nat.testBit_mul_two_pow, Nat.testBit_div_two]
      cases i with
      | zero => simp [Nat.testBit_zero]
      | succ i =>
        have h3 : (y % 2).testBit (i + 1) = false := Nat.testBit_lt_two_pow (Nat.lt_of_lt_of_le (Nat.mod_lt y (by omega)) (Nat.pow_le_pow_right (n := 2) (by omega) (by omega : 1 ≤ i + 1)))
        simp [h3]
    show A p (ser p r M k ^^^ (M / 2 ^ k % 2)) ^^^ M / 2 ^ (k + 1) = _
    conv => rhs; rw [e]
    rw [← Nat.xor_assoc, A_xor p (_ ^^^ _), A_double]

/-- of all bits -/
theorem ser_sm (p r : Nat) (l : List Nat) (h : Byt l) : ser p r (le l) (8 * l.length) = sm p r l := by
  have := ser_inv p r (le l) (8 * l.length)
  rw [Nat.div_eq_of_lt (le_lt l h), Nat.xor_zero] at this
  rw [this, sm_eq p l r h]
end Crc
end Go.Proofs.YtobffegkdoefnaaDoor
