/- Texts laid together: CrcMath, CrcRev, CrcStep, CrcSum, CrcLives, CrcRef, CrcWords, CrcText, CrcTurn, EntMath, EntRight, PatMath, PatMem, PatOrd, EntMay, EntPut, EntEncode, EntDecode. -/
import Derived.KernelRfl
import Derived.Test.YtkhkcfbacnkcnaaGreatDoorRows
import Derived.WalkKit
import Derived.ProofKit
import Derived.Maps.AppendAt
import Derived.MapKept
import Derived.Lib.Hide
import Derived.Laws.BitsAllLaws
import Derived.Laws.IdiomStrings
import Derived.Laws.BytesArg
import Derived.OwnWalk
import Derived.Laws.Strings
import Derived.Deep.OwnRows
import Derived.Laws.OwnMore
import Derived.OneCell
import Derived.ArgAppend
import Derived.Laws.MakeOwn
import Derived.Laws.Cover1
import Derived.Deep.QuietTactic
import Derived.BigQuiet
import Derived.RegionTactic
import Derived.ChangeAlike
import Derived.Deep.RegionHeld3
import Derived.BigCall
import Derived.Lib.LazyBuf
/- Sums that take bits from the lowest on, as numbers: what a row of bytes sums to, and that neighbouring bits which are turned are told. -/
namespace Go.Proofs.YtkhkcfbacnkcnaaGreatDoor
namespace Crc

/-- one step of the sum: the lowest bit falls off -/
def A (p x : Nat) : Nat := x / 2 ^^^ (if x % 2 = 1 then p else 0)

/-- so many steps -/
def it (p : Nat) : Nat → Nat → Nat
  | 0, x => x
  | k + 1, x => it p k (A p x)

theorem half_xor (x y : Nat) : (x ^^^ y) / 2 = x / 2 ^^^ y / 2 := by
  apply Nat.eq_of_testBit_eq
  intro i
  rw [Nat.testBit_div_two, Nat.testBit_xor, Nat.testBit_xor, Nat.testBit_div_two, Nat.testBit_div_two]

theorem odd_xor (x y : Nat) : (x ^^^ y) % 2 = (x % 2 + y % 2) % 2 := by
  have h : (x ^^^ y).testBit 0 = (x.testBit 0 ^^ y.testBit 0) := Nat.testBit_xor ..
  simp only [Nat.testBit_zero] at h
  rcases Nat.mod_two_eq_zero_or_one x with hx | hx <;> rcases Nat.mod_two_eq_zero_or_one y with hy | hy <;> rcases Nat.mod_two_eq_zero_or_one (x ^^^ y) with hz | hz <;> simp [hx, hy, hz] at h ⊢

theorem A_xor (p x y : Nat) : A p (x ^^^ y) = A p x ^^^ A p y := by
  unfold A
  rw [half_xor, odd_xor]
  generalize x / 2 = a
  generalize y / 2 = b
  apply Nat.eq_of_testBit_eq
  intro i
  rcases Nat.mod_two_eq_zero_or_one x with hx | hx <;> rcases Nat.mod_two_eq_zero_or_one y with hy | hy <;> simp [hx, hy, Nat.testBit_xor] <;> cases a.testBit i <;> cases b.testBit i <;> cases p.testBit i <;> rfl

theorem A_double (p x : Nat) : A p (x * 2) = x := by
  unfold A
  simp

theorem A_zero (p : Nat) : A p 0 = 0 := by simp [A]

theorem it_xor (p k : Nat) : ∀ x y, it p k (x ^^^ y) = it p k x ^^^ it p k y := by
  induction k with
  | zero => exact fun _ _ => rfl
  | succ k ih => exact fun x y => by simp only [it]; rw [A_xor, ih]

theorem it_zero (p k : Nat) : it p k 0 = 0 := by
  induction k with
  | zero => rfl
  | succ k ih => simp only [it]; rw [A_zero, ih]

theorem it_add (p a b : Nat) : ∀ x, it p (a + b) x = it p b (it p a x) := by
  induction a with
  | zero => intro x; rw [Nat.zero_add]; rfl
  | succ a ih => intro x; rw [Nat.succ_add]; simp only [it]; exact ih _

theorem it_last (p k x : Nat) : it p (k + 1) x = A p (it p k x) := by rw [it_add]; rfl

theorem it_shift (p k : Nat) : ∀ x, it p k (x * 2 ^ k) = x := by
  induction k with
  | zero => intro x; simp [it]
  | succ k ih =>
    intro x
    simp only [it]
    rw [Nat.pow_succ, ← Nat.mul_assoc, A_double, ih]

theorem A_lt {p x w : Nat} (hp : p < 2 ^ w) (hx : x < 2 ^ w) : A p x < 2 ^ w := by
  unfold A
  refine Nat.xor_lt_two_pow (by omega) ?_
  split <;> omega

theorem A_ne {p x w : Nat} (hp : p.testBit w = true) (hx : x < 2 ^ (w + 1)) (h0 : x ≠ 0) : A p x ≠ 0 := by
  unfold A
  intro h
  split at h
  · have h1 : (x / 2 ^^^ p).testBit w = false := by rw [h]; simp
    rw [Nat.testBit_xor, hp, Nat.testBit_lt_two_pow (by rw [Nat.pow_succ] at hx; omega)] at h1
    simp at h1
  · simp at h
    omega

theorem it_lt {p w : Nat} (hp : p < 2 ^ w) (k : Nat) : ∀ x, x < 2 ^ w → it p k x < 2 ^ w := by
  induction k with
  | zero => exact fun _ h => h
  | succ k ih => exact fun x h => ih _ (A_lt hp h)

theorem it_ne {p w : Nat} (hp : p < 2 ^ (w + 1)) (ht : p.testBit w = true) (k : Nat) : ∀ x, x < 2 ^ (w + 1) → x ≠ 0 → it p k x ≠ 0 := by
  induction k with
  | zero => exact fun _ _ h => h
  | succ k ih => exact fun x h h0 => ih _ (A_lt hp h) (A_ne ht h h0)

/-- the sum with one byte more -/
def nx (p r b : Nat) : Nat := it p 8 (r ^^^ b)

/-- the sum of bytes behind what was summed -/
def sm (p r : Nat) (l : List Nat) : Nat := l.foldl (nx p) r

/-- bytes as one number, the lowest first -/
def le : List Nat → Nat
  | [] => 0
  | b :: l => b + 256 * le l

/-- all are bytes -/
def Byt (l : List Nat) : Prop := ∀ b ∈ l, b < 256

theorem Byt.cons {b : Nat} {l : List Nat} (h : Byt (b :: l)) : b < 256 ∧ Byt l := ⟨h b (List.mem_cons_self ..), fun c hc => h c (List.mem_cons_of_mem _ hc)⟩

theorem bit_cons {b : Nat} (hb : b < 256) (x i : Nat) : (b + 256 * x).testBit i = if i < 8 then b.testBit i else x.testBit (i - 8) := by
  rw [Nat.add_comm]
  exact Nat.testBit_two_pow_mul_add x (i := 8) (by omega) i

theorem cons_xor {b : Nat} (hb : b < 256) (x : Nat) : b + 256 * x = b ^^^ x * 2 ^ 8 := by
  apply Nat.eq_of_testBit_eq
  intro i
  rw [bit_cons hb, Nat.testBit_xor, Nat.testBit_mul_two_pow]
  by_cases h : i < 8
  · simp [h, Nat.not_le.2 h]
  · have h8 : b.testBit i = false := Nat.testBit_lt_two_pow (Nat.lt_of_lt_of_le hb (Nat.pow_le_pow_right (n := 2) (by omega) (by omega : 8 ≤ i)))
    simp [h, h8, Nat.not_lt.1 h]

theorem sm_eq (p : Nat) (l : List Nat) : ∀ r, Byt l → sm p r l = it p (8 * l.length) (r ^^^ le l) := by
  induction l with
  | nil => intro r _; simp [sm, le, it]
  | cons b l ih =>
    intro r h
    have hb := h.cons
    have e : sm p r (b :: l) = sm p (nx p r b) l := rfl
    rw [e, ih _ hb.2]
    have e2 : 8 * (b :: l).length = 8 + 8 * l.length := by rw [List.length_cons]; omega
    rw [e2, it_add]
    congr 1
    show nx p r b ^^^ le l = it p 8 (r ^^^ (b + 256 * le l))
    rw [cons_xor hb.1, ← Nat.xor_assoc, it_xor, it_shift]
    rfl

theorem sm_append (p r : Nat) (l m : List Nat) : sm p r (l ++ m) = sm p (sm p r l) m := List.foldl_append ..

theorem bit_le (l : List Nat) : ∀ i, Byt l → i < 8 * l.length → (le l).testBit i = (l[i / 8]?.getD 0).testBit (i % 8) := by
  induction l with
  | nil => intro i _ h; simp at h
  | cons b l ih =>
    intro i h hi
    have hb := h.cons
    show (b + 256 * le l).testBit i = _
    rw [bit_cons hb.1]
    by_cases h8 : i < 8
    · have e0 : i / 8 = 0 := by omega
      have e1 : i % 8 = i := by omega
      simp [h8, e0, e1]
    · rw [List.length_cons] at hi
      have e0 : i / 8 = (i - 8) / 8 + 1 := by omega
      have e1 : i % 8 = (i - 8) % 8 := by omega
      rw [if_neg h8, ih _ hb.2 (by omega), e0, e1, List.getElem?_cons_succ]

theorem le_lt (l : List Nat) : Byt l → le l < 2 ^ (8 * l.length) := by
  induction l with
  | nil => intro _; simp [le]
  | cons b l ih =>
    intro h
    have hb := h.cons
    have := ih hb.2
    show b + 256 * le l < _
    have e2 : 8 * (b :: l).length = 8 + 8 * l.length := by rw [List.length_cons]; omega
    rw [e2, Nat.pow_add]
    have := hb.1
    have : 2 ^ 8 = 256 := rfl
    omega

/-- one bit turned -/
theorem le_set (l : List Nat) : ∀ j t, Byt l → j < l.length → t < 8 → le (l.set j (l[j]?.getD 0 ^^^ 2 ^ t)) = le l ^^^ 2 ^ (8 * j + t) := by
  induction l with
  | nil => intro j t _ h; simp at h
  | cons b l ih =>
    intro j t h hj ht
    have hb := h.cons
    have hx : b ^^^ 2 ^ t < 256 := Nat.xor_lt_two_pow (n := 8) (by have := hb.1; omega) (Nat.pow_lt_pow_right (by omega) ht)
    cases j with
    | zero =>
      show (b ^^^ 2 ^ t) + 256 * le l = (b + 256 * le l) ^^^ 2 ^ (8 * 0 + t)
      rw [cons_xor hx, cons_xor hb.1, Nat.xor_assoc, Nat.xor_assoc, Nat.mul_zero, Nat.zero_add, Nat.xor_comm (2 ^ t)]
    | succ j =>
      rw [List.length_cons] at hj
      have e := ih j t hb.2 (by omega) ht
      rw [List.set_cons_succ, List.getElem?_cons_succ]
      show b + 256 * le (l.set j (l[j]?.getD 0 ^^^ 2 ^ t)) = (b + 256 * le l) ^^^ 2 ^ (8 * (j + 1) + t)
      rw [e, cons_xor hb.1, cons_xor hb.1, Nat.xor_assoc]
      congr 1
      have e3 : 2 ^ (8 * (j + 1) + t) = 2 ^ (8 * j + t) * 2 ^ 8 := by rw [← Nat.pow_add]; congr 1; omega
      rw [e3]
      apply Nat.eq_of_testBit_eq
      intro i
      simp only [Nat.testBit_mul_two_pow, Nat.testBit_xor]
      by_cases h8 : 8 ≤ i <;> simp [h8]

/-- neighbouring bits that are turned are told -/
theorem burst {p w : Nat} (hp : p < 2 ^ (w + 1)) (ht : p.testBit w = true) (r f m : Nat) (b c : List Nat) (hb : Byt b) (hc : Byt c) (hl : c.length = b.length) (hm : m < 2 ^ (w + 1)) (h0 : m ≠ 0) (hf : f ≤ 8 * b.length) (he : le c = le b ^^^ m * 2 ^ f) : sm p r c ≠ sm p r b := by
  rw [sm_eq p c r hc, sm_eq p b r hb, hl, he, ← Nat.xor_assoc, it_xor]
  intro h
  have h1 : it p (8 * b.length) (m * 2 ^ f) = 0 := by
    have := congrArg (it p (8 * b.length) (r ^^^ le b) ^^^ ·) h
    simpa [← Nat.xor_assoc] using this
  obtain ⟨k, hk⟩ : ∃ k, 8 * b.length = f + k := ⟨8 * b.length - f, by omega⟩
  rw [hk, it_add, it_shift] at h1
  exact it_ne hp ht k m hm h0 h1

/-- the sum, bit by bit -/
def ser (p r M : Nat) : Nat → Nat
  | 0 => r
  | k + 1 => A p (ser p r M k ^^^ (M / 2 ^ k % 2))

theorem ser_inv (p r M : Nat) : ∀ k, ser p r M k ^^^ M / 2 ^ k = it p k (r ^^^ M) := by
  intro k
  induction k with
  | zero => simp [ser, it]
  | succ k ih =>
    rw [it_last, ← ih]
    have e : M / 2 ^ k = (M / 2 ^ k % 2) ^^^ (M / 2 ^ (k + 1)) * 2 := by
      rw [Nat.pow_succ, ← Nat.div_div_eq_div_mul]
      generalize M / 2 ^ k = y
      apply Nat.eq_of_testBit_eq
      intro i
      have h2 : y / 2 * 2 = y / 2 * 2 ^ 1 := rfl
      rw [Nat.testBit_xor, h2, Nat.testBit_mul_two_pow, Nat.testBit_div_two]
      cases i with
      | zero => simp [Nat.testBit_zero]
      | succ i =>
        have h3 : (y % 2).testBit (i + 1) = false := Nat.testBit_lt_two_pow (Nat.lt_of_lt_of_le (Nat.mod_lt y (by omega)) (Nat.pow_le_pow_right (n := 2) (by omega) (by omega : 1 ≤ i + 1)))
        simp [h3]
    show A p (ser p r M k ^^^ (M / 2 ^ k % 2)) ^^^ M / 2 ^ (k + 1) = _
    conv => rhs; rw [e]
    rw [← Nat.xor_assoc, A_xor p (_ ^^^ _), A_double]

/-- of all bits -/
theorem ser_sm (p r : Nat) (l : List Nat) (h : Byt l) : ser p r (le l) (8 * l.length) = sm p r l := by
  have := ser_inv p r (le l) (8 * l.length)
  rw [Nat.div_eq_of_lt (le_lt l h), Nat.xor_zero] at this
  rw [this, sm_eq p l r h]
end Crc
end Go.Proofs.YtkhkcfbacnkcnaaGreatDoor
/- Bits the other way round: the sum that takes bits from the highest on. -/
namespace Go.Proofs.YtkhkcfbacnkcnaaGreatDoor
namespace Crc

/-- so many bits, the other way round -/
def rev : Nat → Nat → Nat
  | 0, _ => 0
  | w + 1, x => 2 ^ w * (x % 2) + rev w (x / 2)

theorem rev_lt (w : Nat) : ∀ x, rev w x < 2 ^ w := by
  induction w with
  | zero => intro x; simp [rev]
  | succ w ih =>
    intro x
    have h1 := ih (x / 2)
    have h2 : x % 2 < 2 := Nat.mod_lt _ (by omega)
    simp only [rev]
    rw [Nat.pow_succ]
    rcases Nat.mod_two_eq_zero_or_one x with h | h <;> rw [h] <;> omega

theorem bit_rev (w : Nat) : ∀ x i, (rev w x).testBit i = (decide (i < w) && x.testBit (w - 1 - i)) := by
  induction w with
  | zero => intro x i; simp [rev]
  | succ w ih =>
    intro x i
    simp only [rev]
    rw [Nat.testBit_two_pow_mul_add _ (rev_lt w _), ih]
    by_cases h : i < w
    · have e : w + 1 - 1 - i = w - 1 - i + 1 := by omega
      have h1 : i < w + 1 := by omega
      rw [if_pos h, e, Nat.testBit_add_one]
      simp [h, h1]
    · rw [if_neg h]
      by_cases h1 : i = w
      · subst h1
        simp
      · have h2 : ¬ i < w + 1 := by omega
        have h3 : (x % 2).testBit (i - w) = false := Nat.testBit_lt_two_pow (Nat.lt_of_lt_of_le (Nat.mod_lt x (by omega)) (Nat.pow_le_pow_right (n := 2) (by omega) (by omega : 1 ≤ i - w)))
        simp [h2, h3]

theorem rev_xor (w x y : Nat) : rev w (x ^^^ y) = rev w x ^^^ rev w y := by
  apply Nat.eq_of_testBit_eq
  intro i
  simp only [bit_rev, Nat.testBit_xor]
  by_cases h : i < w <;> simp [h]

theorem rev_rev {w x : Nat} (hx : x < 2 ^ w) : rev w (rev w x) = x := by
  apply Nat.eq_of_testBit_eq
  intro i
  simp only [bit_rev]
  by_cases h : i < w
  · have h1 : w - 1 - i < w := by omega
    have e : w - 1 - (w - 1 - i) = i := by omega
    simp [h, h1, e]
  · have h1 : x.testBit i = false := Nat.testBit_lt_two_pow (Nat.lt_of_lt_of_le hx (Nat.pow_le_pow_right (n := 2) (by omega) (by omega : w ≤ i)))
    simp [h, h1]

theorem rev_inj {w x y : Nat} (hx : x < 2 ^ w) (hy : y < 2 ^ w) (h : rev w x = rev w y) : x = y := by
  rw [← rev_rev hx, h, rev_rev hy]

theorem rev_byte {b : Nat} (hb : b < 256) : rev 16 (rev 8 b) = b * 256 := by
  apply Nat.eq_of_testBit_eq
  intro i
  have e : b * 256 = b * 2 ^ 8 := rfl
  rw [e, Nat.testBit_mul_two_pow]
  simp only [bit_rev]
  by_cases h : i < 16
  · by_cases h1 : 8 ≤ i
    · have e1 : 8 - 1 - (16 - 1 - i) = i - 8 := by omega
      have h2 : 16 - 1 - i < 8 := by omega
      simp only [h, h1, h2, e1, decide_true, Bool.true_and]
    · have h2 : ¬ 16 - 1 - i < 8 := by omega
      simp only [h, h1, h2, decide_true, decide_false, Bool.true_and, Bool.false_and]
  · have h1 : b.testBit (i - 8) = false := Nat.testBit_lt_two_pow (Nat.lt_of_lt_of_le (show b < 2 ^ 8 from hb) (Nat.pow_le_pow_right (n := 2) (by omega) (by omega : 8 ≤ i - 8)))
    simp [h, h1]

theorem rev_half {q : Nat} (hq : q < 65536) : rev 16 q * 2 % 65536 = rev 16 (q / 2) := by
  apply Nat.eq_of_testBit_eq
  intro i
  have e0 : (65536 : Nat) = 2 ^ 16 := rfl
  have e1 : rev 16 q * 2 = rev 16 q * 2 ^ 1 := rfl
  rw [e0, Nat.testBit_mod_two_pow, e1, Nat.testBit_mul_two_pow]
  simp only [bit_rev]
  by_cases h : i < 16
  · rw [Nat.testBit_div_two]
    cases i with
    | zero =>
      have h1 : q.testBit 16 = false := Nat.testBit_lt_two_pow hq
      simp [h1]
    | succ i =>
      have h1 : i < 16 := by omega
      have e2 : 16 - 1 - i = 16 - 1 - (i + 1) + 1 := by omega
      simp [h, h1, e2]
  · simp [h]

theorem rev_top (q : Nat) : rev 16 q / 32768 = q % 2 := by
  have h := rev_lt 15 (q / 2)
  have e : rev 16 q = 2 ^ 15 * (q % 2) + rev 15 (q / 2) := rfl
  rw [e]
  have : (2 : Nat) ^ 15 = 32768 := rfl
  omega

def P16 : Nat := 33800

theorem step_rev {q : Nat} (hq : q < 65536) : rev 16 q * 2 % 65536 ^^^ (if q % 2 = 1 then 4129 else 0) = rev 16 (A P16 q) := by
  unfold A
  rw [rev_xor, rev_half hq]
  congr 1
  split <;> decide

theorem rev_bit : ∀ t, t < 8 → rev 8 (2 ^ (7 - t)) = 2 ^ t := by decide

/-- one bit of a byte turned, the other way round -/
theorem rev_turn {x t : Nat} (ht : t < 8) : rev 8 (x ^^^ 2 ^ (7 - t)) = rev 8 x ^^^ 2 ^ t := by rw [rev_xor, rev_bit t ht]
end Crc
end Go.Proofs.YtkhkcfbacnkcnaaGreatDoor
/- The program's own steps: a byte more. -/
namespace Go.Proofs.YtkhkcfbacnkcnaaGreatDoor
open Go.RowKit Go.MapKept
namespace Crc

def P32 : Nat := 3988292384

theorem mask32 (p e : Nat) (hp : p < 4294967296) (he : e = 0 ∨ e = 1) : bits .and .u32 (p : Int) (IntKind.wrap .u32 (-(e : Int))) = (((if e = 1 then p else 0 : Nat)) : Int) := by
  rcases he with rfl | rfl
  · have h : IntKind.wrap .u32 (-((0 : Nat) : Int)) = ((0 : Nat) : Int) := by rw [IntKind.wrap_u32']; rfl
    rw [h, u32_and_nat p 0 hp (by omega)]
    simp
  · have h : IntKind.wrap .u32 (-((1 : Nat) : Int)) = ((4294967295 : Nat) : Int) := by rw [IntKind.wrap_u32']; rfl
    have h2 : p &&& 4294967295 = p % 4294967296 := Nat.and_two_pow_sub_one_eq_mod p 32
    rw [h, u32_and_nat p _ hp (by omega), h2, Nat.mod_eq_of_lt hp]
    simp

theorem mask16 (p e : Nat) (hp : p < 65536) (he : e = 0 ∨ e = 1) : bits .and .u16 (p : Int) (IntKind.wrap .u16 (-(e : Int))) = (((if e = 1 then p else 0 : Nat)) : Int) := by
  rcases he with rfl | rfl
  · have h : IntKind.wrap .u16 (-((0 : Nat) : Int)) = ((0 : Nat) : Int) := by rw [IntKind.wrap_u16]; rfl
    rw [h, u16_and_nat p 0 hp (by omega)]
    simp
  · have h : IntKind.wrap .u16 (-((1 : Nat) : Int)) = ((65535 : Nat) : Int) := by rw [IntKind.wrap_u16]; rfl
    have h2 : p &&& 65535 = p % 65536 := Nat.and_two_pow_sub_one_eq_mod p 16
    rw [h, u16_and_nat p _ hp (by omega), h2, Nat.mod_eq_of_lt hp]
    simp

theorem step32 (x : Nat) (hx : x < 4294967296) : bits .xor .u32 ((x : Int) / 2) (bits .and .u32 3988292384 (IntKind.wrap .u32 (-(bits .and .u32 (x : Int) 1)))) = ((A P32 x : Nat) : Int) := by
  have h1 : bits .and .u32 (x : Int) 1 = ((x % 2 : Nat) : Int) := by
    have := u32_and_nat x 1 hx (by omega)
    rw [nat_mask1] at this
    exact this
  rw [h1]
  have h2 := mask32 3988292384 (x % 2) (by omega) (by omega)
  rw [show ((3988292384 : Nat) : Int) = (3988292384 : Int) from rfl] at h2
  rw [h2, show (x : Int) / 2 = ((x / 2 : Nat) : Int) from rfl, u32_xor_nat _ _ (by omega) (by split <;> omega)]
  rfl

theorem step16 (q : Nat) (hq : q < 65536) : bits .xor .u16 (IntKind.wrap .u16 (((rev 16 q : Nat) : Int) * 2)) (bits .and .u16 4129 (IntKind.wrap .u16 (-(((rev 16 q : Nat) : Int) / 32768)))) = ((rev 16 (A P16 q) : Nat) : Int) := by
  have h1 : ((rev 16 q : Nat) : Int) / 32768 = ((q % 2 : Nat) : Int) := by rw [← rev_top]; rfl
  have h0 : IntKind.wrap .u16 (((rev 16 q : Nat) : Int) * 2) = ((rev 16 q * 2 % 65536 : Nat) : Int) := by rw [IntKind.wrap_u16]; omega
  have h2 := mask16 4129 (q % 2) (by omega) (by omega)
  rw [show ((4129 : Nat) : Int) = (4129 : Int) from rfl] at h2
  rw [h1, h2, h0, u16_xor_nat _ _ (by omega) (by split <;> omega), step_rev hq]

theorem it32_lt {x : Nat} (hx : x < 4294967296) (k : Nat) : it P32 k x < 4294967296 := it_lt (w := 32) (by decide) k x hx
theorem it16_lt {x : Nat} (hx : x < 65536) (k : Nat) : it P16 k x < 65536 := it_lt (w := 16) (by decide) k x hx

set_option maxHeartbeats 800000 in
theorem next32_any (w : World) (r b : Nat) (hr : r < 4294967296) (hb : b < 256) :
    Calls Tryz.prog 114 #[.int .u32 (r : Int), .int .u8 (b : Int)] w fun e w' => e = .returned (.int .u32 (nx P32 r b : Nat)) ∧ w = w' := by
  have hx : bits .xor .u32 (r : Int) (b : Int) = ((r ^^^ b : Nat) : Int) := u32_xor_nat r b hr (by omega)
  have hlt : r ^^^ b < 4294967296 := Nat.xor_lt_two_pow (n := 32) hr (by omega)
  go_enter Tryz.func114, Tryz.ntmps114
  go_wp2
  go_loopw [0, 9] (fun s i wr => ∃ m : Nat, m ≤ 8 ∧ i = .int .i64 (m : Int) ∧ s = .int .u32 ((it P32 m (r ^^^ b) : Nat) : Int) ∧ wr = w) (fun _ i _ => 8 - (intOf i).toNat)
  case atStart => exact ⟨0, by omega, rfl, rfl, rfl⟩
  case round =>
    obtain ⟨m, hm, rfl, rfl, rfl⟩ := hrel
    have hs := step32 _ (it32_lt hlt m)
    rw [← it_last, IntKind.wrap_u32'] at hs
    by_cases h8 : m < 8
    · go_wp2
      exact ⟨⟨m + 1, by omega, by go_num, rfl, trivial⟩, by simp [intOf]; omega⟩
    · obtain rfl : m = 8 := by omega
      clear hs
      go_wp2
      go_ret
      exact ⟨rfl, rfl⟩

set_option maxHeartbeats 800000 in
theorem next16_any (w : World) (q b : Nat) (hq : q < 65536) (hb : b < 256) :
    Calls Tryz.prog 115 #[.int .u16 ((rev 16 q : Nat) : Int), .int .u8 (b : Int)] w fun e w' => e = .returned (.int .u16 (rev 16 (nx P16 q (rev 8 b)) : Nat)) ∧ w = w' := by
  have hv : rev 8 b < 256 := rev_lt 8 b
  have hlt : q ^^^ rev 8 b < 65536 := Nat.xor_lt_two_pow (n := 16) hq (by omega)
  have hx : bits .xor .u16 ((rev 16 q : Nat) : Int) ((b : Int) * 256) = ((rev 16 (q ^^^ rev 8 b) : Nat) : Int) := by
    have h0 : (b : Int) * 256 = ((b * 256 : Nat) : Int) := by omega
    rw [h0, u16_xor_nat _ _ (rev_lt 16 q) (by omega), rev_xor, rev_byte hb]
  go_enter Tryz.func115, Tryz.ntmps115
  go_wp2
  go_loopw [0, 10] (fun s i wr => ∃ m : Nat, m ≤ 8 ∧ i = .int .i64 (m : Int) ∧ s = .int .u16 ((rev 16 (it P16 m (q ^^^ rev 8 b)) : Nat) : Int) ∧ wr = w) (fun _ i _ => 8 - (intOf i).toNat)
  case atStart => exact ⟨0, by omega, rfl, rfl, rfl⟩
  case round =>
    obtain ⟨m, hm, rfl, rfl, rfl⟩ := hrel
    have hs := step16 _ (it16_lt hlt m)
    rw [← it_last] at hs
    by_cases h8 : m < 8
    · go_wp2
      exact ⟨⟨m + 1, by omega, by go_num, rfl, trivial⟩, by simp [intOf]; omega⟩
    · obtain rfl : m = 8 := by omega
      clear hs
      go_wp2
      go_ret
      exact ⟨rfl, rfl⟩
end Crc
end Go.Proofs.YtkhkcfbacnkcnaaGreatDoor
/- Bytes and parts as they lie in memory, and the program's sums of them. -/
namespace Go.Proofs.YtkhkcfbacnkcnaaGreatDoor
open Go.RowKit Go.MapKept
namespace Crc

/-- these bytes lie at A -/
structure Bts (w : World) (A : Option Addr) (l : List Nat) : Prop where
  byt : Byt l
  len : l.length ≤ 9223372036854775807
  at' : ∀ j (h : j < l.length), ∃ b o, A = some ⟨b, o, none⟩ ∧ b < w.heap.size ∧ w.cell? ⟨b, o + j, none⟩ = some (.int .u8 (l[j] : Int))

/-- a part -/
structure Prt where
  a : Option Addr
  c : Nat
  l : List Nat

/-- these parts lie at A -/
structure Pts (w : World) (A : Option Addr) (ps : List Prt) : Prop where
  len : ps.length ≤ 9223372036854775807
  at' : ∀ i (h : i < ps.length), ∃ b o, A = some ⟨b, o, none⟩ ∧ b < w.heap.size ∧ w.cell? ⟨b, o + i, none⟩ = some (.slice ps[i].a ps[i].l.length ps[i].c)
  bts : ∀ i (h : i < ps.length), Bts w ps[i].a ps[i].l

/-- all bytes, one part behind the other -/
def flat (ps : List Prt) : List Nat := ps.flatMap Prt.l

theorem flat_take {ps : List Prt} {m : Nat} (h : m < ps.length) : flat (ps.take (m + 1)) = flat (ps.take m) ++ ps[m].l := by
  unfold flat
  rw [List.take_succ_eq_append_getElem h, List.flatMap_append]
  simp

theorem Pts.flat_byt {w : World} {A : Option Addr} {ps : List Prt} (h : Pts w A ps) : Byt (flat ps) := by
  intro b hb
  obtain ⟨q, hq, hb⟩ := List.mem_flatMap.1 hb
  obtain ⟨i, hi, rfl⟩ := List.getElem_of_mem hq
  exact (h.bts i hi).byt b hb

theorem Byt.take {l : List Nat} (h : Byt l) (n : Nat) : Byt (l.take n) := fun b hb => h b (List.mem_of_mem_take hb)
theorem Byt.append {l m : List Nat} (h : Byt l) (g : Byt m) : Byt (l ++ m) := fun b hb => (List.mem_append.1 hb).elim (h b) (g b)
theorem Byt.rev8 (l : List Nat) : Byt (l.map (rev 8)) := by
  intro b hb
  obtain ⟨x, _, rfl⟩ := List.mem_map.1 hb
  exact rev_lt 8 x

theorem nx32_lt {r b : Nat} (hr : r < 4294967296) (hb : b < 256) : nx P32 r b < 4294967296 := it32_lt (Nat.xor_lt_two_pow (n := 32) hr (by omega)) 8
theorem nx16_lt {r b : Nat} (hr : r < 65536) (hb : b < 256) : nx P16 r b < 65536 := it16_lt (Nat.xor_lt_two_pow (n := 16) hr (by omega)) 8

theorem sm32_lt (l : List Nat) : ∀ r, r < 4294967296 → Byt l → sm P32 r l < 4294967296 := by
  induction l with
  | nil => exact fun _ h _ => h
  | cons b l ih => exact fun r h hl => ih _ (nx32_lt h hl.cons.1) hl.cons.2
theorem sm16_lt (l : List Nat) : ∀ r, r < 65536 → Byt l → sm P16 r l < 65536 := by
  induction l with
  | nil => exact fun _ h _ => h
  | cons b l ih => exact fun r h hl => ih _ (nx16_lt h hl.cons.1) hl.cons.2

theorem sm_take {p r : Nat} {l : List Nat} {j : Nat} (h : j < l.length) : sm p r (l.take (j + 1)) = nx p (sm p r (l.take j)) l[j] := by
  rw [List.take_succ_eq_append_getElem h, sm_append]
  rfl

/-- the sums, as the document says them -/
def S32 (l : List Nat) : Nat := 4294967295 - sm P32 4294967295 l
def T16 (l : List Nat) : Nat := sm P16 65535 (l.map (rev 8))
def S16 (l : List Nat) : Nat := rev 16 (T16 l)

theorem inv32 (x : Nat) (hx : x < 4294967296) : bits .xor .u32 IntKind.u32.max (x : Int) = ((4294967295 - x : Nat) : Int) := by
  have h := u32_xor_nat 4294967295 x (by omega) hx
  have e : 4294967295 ^^^ x = 4294967295 - x := by
    apply Nat.eq_of_testBit_eq
    intro i
    have e1 : 4294967295 - x = 2 ^ 32 - (x + 1) := by omega
    have e2 : (4294967295 : Nat) = 2 ^ 32 - 1 := rfl
    rw [Nat.testBit_xor, e1, Nat.testBit_two_pow_sub_succ (show x < 2 ^ 32 from hx), e2, Nat.testBit_two_pow_sub_one]
    by_cases hi : i < 32
    · simp [hi]
    · have : x.testBit i = false := Nat.testBit_lt_two_pow (Nat.lt_of_lt_of_le (show x < 2 ^ 32 from hx) (Nat.pow_le_pow_right (n := 2) (by omega) (by omega : 32 ≤ i)))
      simp [hi, this]
  rw [e] at h
  exact h

section
variable {w : World}
set_option maxHeartbeats 1600000 in
set_option maxRecDepth 100000 in
theorem sum32_any (A : Option Addr) (c : Nat) (ps : List Prt) (h : Pts w A ps) :
    Calls Tryz.prog 101 #[.slice A ps.length c] w fun e w' => e = .returned (.int .u32 (S32 (flat ps) : Nat)) ∧ w = w' := by
  have hn := h.len
  have HF := Lib.hid h.flat_byt
  have H := Lib.hid h
  clear h
  have HN := Lib.hid (fun r b hr hb => next32_any w r b hr hb)
  go_enter Tryz.func101, Tryz.ntmps101
  go_wp2
  go_loopw [3, 10] (fun s i wr => ∃ m : Nat, m ≤ ps.length ∧ i = .int .i64 (m : Int) ∧ s = .int .u32 ((sm P32 4294967295 (flat (ps.take m)) : Nat) : Int) ∧ w = wr) (fun _ i _ => ps.length - (intOf i).toNat)
  case atStart => exact ⟨0, Nat.zero_le _, rfl, rfl, rfl⟩
  case round =>
    obtain ⟨m, hm, rfl, rfl, rfl⟩ := hrel
    by_cases hlt : m < ps.length
    · obtain ⟨b, o, rfl, hb, hcell⟩ := H.out.at' m hlt
      have hbt := H.out.bts m hlt
      have hbl := hbt.len
      have HB := Lib.hid hbt
      have hr0 : sm P32 4294967295 (flat (ps.take m)) < 4294967296 := sm32_lt _ _ (by omega) (fun x hx => by
        obtain ⟨q, hq, hx⟩ := List.mem_flatMap.1 hx
        obtain ⟨i, hi, rfl⟩ := List.getElem_of_mem (List.mem_of_mem_take hq)
        exact (H.out.bts i hi).byt x hx)
      have HR := Lib.hid (show sm P32 4294967295 (flat (ps.take (m + 1))) = sm P32 (sm P32 4294967295 (flat (ps.take m))) (ps[m].l) by rw [flat_take hlt, sm_append])
      generalize ps[m] = q at *
      generalize sm P32 4294967295 (flat (ps.take m)) = r0 at *
      obtain ⟨qa, qc, ql⟩ := q
      simp only at hcell hbl HB HR
      clear hbt
      go_wp2
      go_loopw [3, 16] (fun s i wr => ∃ j : Nat, j ≤ ql.length ∧ i = .int .i64 (j : Int) ∧ s = .int .u32 ((sm P32 r0 (ql.take j) : Nat) : Int) ∧ w = wr) (fun _ i _ => ql.length - (intOf i).toNat)
      case atStart => exact ⟨0, Nat.zero_le _, rfl, rfl, rfl⟩
      case round =>
        obtain ⟨j, hj, rfl, rfl, rfl⟩ := hrel
        by_cases hjl : j < ql.length
        · obtain ⟨b', o', rfl, hb', hc'⟩ := HB.out.at' j hjl
          have hbb : ql[j] < 256 := HB.out.byt _ (List.getElem_mem hjl)
          have hrj : sm P32 r0 (ql.take j) < 4294967296 := sm32_lt _ _ hr0 (HB.out.byt.take j)
          have hnx := HN.out _ _ hrj hbb
          have e : sm P32 r0 (ql.take (j + 1)) = nx P32 (sm P32 r0 (ql.take j)) (ql[j]) := sm_take hjl
          rw [← e] at hnx
          have HX := Lib.hid hnx
          clear hnx e
          go_wp2_with fail
          refine HX.out.mono ?_
          rintro e w' ⟨rfl, rfl⟩
          go_wp2
          exact ⟨⟨j + 1, by omega, by go_num, rfl, trivial⟩, by simp [intOf]; omega⟩
        · obtain rfl : j = ql.length := by omega
          rw [List.take_length, ← HR.out]
          go_wp2
          exact ⟨⟨m + 1, by omega, by go_num, rfl, trivial⟩, by simp [intOf]; omega⟩
    · obtain rfl : m = ps.length := by omega
      rw [List.take_length]
      have hi := inv32 _ (sm32_lt (flat ps) 4294967295 (by omega) HF.out)
      go_wp2
      go_ret
      exact ⟨rfl, rfl⟩

set_option maxHeartbeats 1600000 in
set_option maxRecDepth 100000 in
theorem sum16_gen (f g : Nat → Nat) (hf : f 65535 = 65535) (hg : ∀ b, g b < 256) (hN : ∀ r b : Nat, r < 65536 → b < 256 → Calls Tryz.prog 115 #[.int .u16 ((f r : Nat) : Int), .int .u8 (b : Int)] w fun e w' => e = .returned (.int .u16 (f (nx P16 r (g b)) : Nat)) ∧ w = w') (A : Option Addr) (c : Nat) (ps : List Prt) (h : Pts w A ps) :
    Calls Tryz.prog 102 #[.slice A ps.length c] w fun e w' => e = .returned (.int .u16 (f (sm P16 65535 ((flat ps).map g)) : Nat)) ∧ w = w' := by
  have hn := h.len
  have hby : ∀ l : List Nat, Byt (l.map g) := fun l b hb => by obtain ⟨x, _, rfl⟩ := List.mem_map.1 hb; exact hg x
  have HY := Lib.hid hby
  have H := Lib.hid h
  clear h
  have HN := Lib.hid hN
  clear hN hg hby
  go_enter Tryz.func102, Tryz.ntmps102
  go_wp2
  go_loopw [3, 10] (fun s i wr => ∃ m : Nat, m ≤ ps.length ∧ i = .int .i64 (m : Int) ∧ s = .int .u16 ((f (sm P16 65535 ((flat (ps.take m)).map g)) : Nat) : Int) ∧ w = wr) (fun _ i _ => ps.length - (intOf i).toNat)
  case atStart =>
    refine ⟨0, Nat.zero_le _, rfl, ?_, rfl⟩
    rw [List.take_zero]
    show Value.int .u16 65535 = .int .u16 ((f 65535 : Nat) : Int)
    rw [hf]
    rfl
  case round =>
    obtain ⟨m, hm, rfl, rfl, rfl⟩ := hrel
    by_cases hlt : m < ps.length
    · obtain ⟨b, o, rfl, hb, hcell⟩ := H.out.at' m hlt
      have hbt := H.out.bts m hlt
      have hbl := hbt.len
      have HB := Lib.hid hbt
      have hr0 : sm P16 65535 ((flat (ps.take m)).map g) < 65536 := sm16_lt _ _ (by omega) (HY.out _)
      have HR := Lib.hid (show sm P16 65535 ((flat (ps.take (m + 1))).map g) = sm P16 (sm P16 65535 ((flat (ps.take m)).map g)) ((ps[m].l).map g) by rw [flat_take hlt, List.map_append, sm_append])
      generalize ps[m] = q at *
      generalize sm P16 65535 ((flat (ps.take m)).map g) = r0 at *
      obtain ⟨qa, qc, ql⟩ := q
      simp only at hcell hbl HB HR
      clear hbt
      go_wp2
      go_loopw [3, 16] (fun s i wr => ∃ j : Nat, j ≤ ql.length ∧ i = .int .i64 (j : Int) ∧ s = .int .u16 ((f (sm P16 r0 ((ql.map g).take j)) : Nat) : Int) ∧ w = wr) (fun _ i _ => ql.length - (intOf i).toNat)
      case atStart => exact ⟨0, Nat.zero_le _, rfl, by rw [List.take_zero]; rfl, rfl⟩
      case round =>
        obtain ⟨j, hj, rfl, rfl, rfl⟩ := hrel
        by_cases hjl : j < ql.length
        · obtain ⟨b', o', rfl, hb', hc'⟩ := HB.out.at' j hjl
          have hbb : ql[j] < 256 := HB.out.byt _ (List.getElem_mem hjl)
          have hrj : sm P16 r0 ((ql.map g).take j) < 65536 := sm16_lt _ _ hr0 ((HY.out _).take j)
          have hnx := HN.out _ _ hrj hbb
          have e : sm P16 r0 ((ql.map g).take (j + 1)) = nx P16 (sm P16 r0 ((ql.map g).take j)) (g ql[j]) := by rw [sm_take (by rw [List.length_map]; exact hjl), List.getElem_map]
          rw [← e] at hnx
          have HX := Lib.hid hnx
          clear hnx e
          go_wp2_with fail
          refine HX.out.mono ?_
          rintro e w' ⟨rfl, rfl⟩
          go_wp2
          exact ⟨⟨j + 1, by omega, by go_num, rfl, trivial⟩, by simp [intOf]; omega⟩
        · obtain rfl : j = ql.length := by omega
          rw [List.take_of_length_le (by rw [List.length_map]; exact Nat.le_refl _), ← HR.out]
          go_wp2
          exact ⟨⟨m + 1, by omega, by go_num, rfl, trivial⟩, by simp [intOf]; omega⟩
    · obtain rfl : m = ps.length := by omega
      rw [List.take_length]
      go_wp2
      go_ret
      exact ⟨rfl, rfl⟩

theorem sum16_any (A : Option Addr) (c : Nat) (ps : List Prt) (h : Pts w A ps) :
    Calls Tryz.prog 102 #[.slice A ps.length c] w fun e w' => e = .returned (.int .u16 (S16 (flat ps) : Nat)) ∧ w = w' :=
  sum16_gen (rev 16) (rev 8) (by decide) (rev_lt 8) (fun r b hr hb => next16_any w r b hr hb) A c ps h
end
end Crc
end Go.Proofs.YtkhkcfbacnkcnaaGreatDoor
/- The chapter's example; and what new parts hold. -/
namespace Go.Proofs.YtkhkcfbacnkcnaaGreatDoor
open Go.RowKit Go.MapKept
namespace Crc

theorem conv_new (w : World) (C : Array Value) (n c : Nat) : (convert 30 30 (.slice (some ⟨w.heap.size, 0, none⟩) n c)).run Tryz.prog (w.alloc (.cells C 5)) = .ok (.slice (some ⟨w.heap.size, 0, none⟩) n c) (w.alloc (.cells C 5 (C.size, C.size + 1))) := by
  have hsh : (w.alloc (.cells C 5)).shape? w.heap.size = some (5, C.size) := by
    have : (w.alloc (.cells C 5)).heap[w.heap.size]? = some (.cells C 5) := by
      show (w.heap.push (.cells C 5))[w.heap.size]? = _
      simp
    unfold World.shape?
    rw [this]
  have hfr : (w.alloc (.cells C 5)).freeze ⟨w.heap.size, C.size, none⟩ 1 = w.alloc (.cells C 5 (C.size, C.size + 1)) := by
    have hm : ∀ (a : Array Obj) (x : Obj) (f : Obj → Obj), (a.push x).modify a.size f = a.push (f x) := by
      intro a x f
      apply Array.ext
      · simp
      · intro i h1 h2
        simp only [Array.getElem_modify, Array.getElem_push]
        by_cases h : a.size = i
        · subst h
          simp
        · have hi : i < a.size := by simp at h1; omega
          simp [h, hi]
    unfold World.freeze
    rw [if_neg (by decide)]
    show ({ w.alloc (.cells C 5) with heap := (w.heap.push (.cells C 5)).modify w.heap.size _ } : World) = _
    rw [hm]
    rfl
  simp [convert, run_underlying Tryz.underlying30, run_underlying Tryz.underlying5, markStringish, hsh, hfr]

theorem Bts.keep {w w' : World} {A : Option Addr} {l : List Nat} (h : Bts w A l) (hb : Below w.heap.size w w') : Bts w' A l :=
  ⟨h.byt, h.len, fun j hj => by
    obtain ⟨b, o, e, hlt, hc⟩ := h.at' j hj
    exact ⟨b, o, e, Nat.lt_of_lt_of_le hlt hb.size, (hb.cell (p := ⟨b, o + j, none⟩) hlt).trans hc⟩⟩

theorem Pts.keep {w w' : World} {A : Option Addr} {ps : List Prt} (h : Pts w A ps) (hb : Below w.heap.size w w') : Pts w' A ps :=
  ⟨h.len, fun j hj => by
    obtain ⟨b, o, e, hlt, hc⟩ := h.at' j hj
    exact ⟨b, o, e, Nat.lt_of_lt_of_le hlt hb.size, (hb.cell (p := ⟨b, o + j, none⟩) hlt).trans hc⟩, fun i hi => (h.bts i hi).keep hb⟩

theorem Bts.alloc {w : World} {A : Option Addr} {l : List Nat} (h : Bts w A l) (o : Obj) : Bts (w.alloc o) A l := h.keep ((Below.refl _ _).alloc (Nat.le_refl _) o)
theorem Pts.alloc {w : World} {A : Option Addr} {ps : List Prt} (h : Pts w A ps) (o : Obj) : Pts (w.alloc o) A ps := h.keep ((Below.refl _ _).alloc (Nat.le_refl _) o)

/-- the cell of a part -/
def Prt.val (q : Prt) : Value := .slice q.a q.l.length q.c

theorem alloc_cell (w : World) (C : Array Value) (t : TypeId) (j : Nat) : (w.alloc (.cells C t)).cell? ⟨w.heap.size, j, none⟩ = C[j]? := World.cell?_alloc_mark w C t _ j

/-- new parts -/
theorem pts_new {w : World} (ps : List Prt) (t : TypeId) (hn : ps.length ≤ 9223372036854775807) (h : ∀ i (h : i < ps.length), Bts w ps[i].a ps[i].l) : Pts (w.alloc (.cells (ps.map Prt.val).toArray t)) (some ⟨w.heap.size, 0, none⟩) ps :=
  ⟨hn, fun i hi => ⟨w.heap.size, 0, rfl, by simp, by
    rw [alloc_cell, Nat.zero_add, List.getElem?_toArray, List.getElem?_map, List.getElem?_eq_getElem hi]
    rfl⟩, fun i hi => (h i hi).alloc _⟩

theorem pts_one {w : World} {A : Option Addr} {l : List Nat} (c : Nat) (h : Bts w A l) : Pts (w.alloc (.cells #[.slice A l.length c] 30)) (some ⟨w.heap.size, 0, none⟩) [⟨A, c, l⟩] :=
  pts_new [⟨A, c, l⟩] _ (by simp) (fun i hi => by
    obtain rfl : i = 0 := by simpa using hi
    exact h)

def L9 : List Nat := [49, 50, 51, 52, 53, 54, 55, 56, 57]

theorem bts_nine (w : World) : Bts (w.alloc (.cells #[.int .u8 49, .int .u8 50, .int .u8 51, .int .u8 52, .int .u8 53, .int .u8 54, .int .u8 55, .int .u8 56, .int .u8 57] 5 (9, 10))) (some ⟨w.heap.size, 0, none⟩) L9 :=
  ⟨by unfold Byt; decide, by decide, fun j hj => ⟨w.heap.size, 0, rfl, by simp, by
    rw [World.cell?_alloc_mark, Nat.zero_add]
    have : j < 9 := hj
    match j, this with
    | 0, _ => rfl
    | 1, _ => rfl
    | 2, _ => rfl
    | 3, _ => rfl
    | 4, _ => rfl
    | 5, _ => rfl
    | 6, _ => rfl
    | 7, _ => rfl
    | 8, _ => rfl⟩⟩

theorem flat_one (a : Option Addr) (c : Nat) (l : List Nat) : flat [⟨a, c, l⟩] = l := by simp [flat]

theorem s32_nine : S32 L9 = 3421780262 := by decide +kernel
theorem s16_nine : S16 L9 = 10673 := by decide +kernel

/-- the sums of one part -/
theorem sum32_one {w : World} {A : Option Addr} {l : List Nat} (c cc : Nat) (h : Bts w A l) :
    Calls Tryz.prog 101 #[.slice (some ⟨w.heap.size, 0, none⟩) 1 cc] (w.alloc (.cells #[.slice A l.length c] 30)) fun e w' => e = .returned (.int .u32 (S32 l : Nat)) ∧ w.alloc (.cells #[.slice A l.length c] 30) = w' := by
  have := sum32_any _ cc _ (pts_one c h)
  rw [flat_one] at this
  exact this
theorem sum16_one {w : World} {A : Option Addr} {l : List Nat} (c cc : Nat) (h : Bts w A l) :
    Calls Tryz.prog 102 #[.slice (some ⟨w.heap.size, 0, none⟩) 1 cc] (w.alloc (.cells #[.slice A l.length c] 30)) fun e w' => e = .returned (.int .u16 (S16 l : Nat)) ∧ w.alloc (.cells #[.slice A l.length c] 30) = w' := by
  have := sum16_any _ cc _ (pts_one c h)
  rw [flat_one] at this
  exact this

set_option maxHeartbeats 1600000 in
set_option maxRecDepth 100000 in
theorem lives_any (w : World) : Calls Tryz.prog 89 #[] w fun r w' => r = .returned (.bool true) ∧ Below w.heap.size w w' := by
  have h1 := bts_nine w
  have hcv := conv_new w #[.int .u8 49, .int .u8 50, .int .u8 51, .int .u8 52, .int .u8 53, .int .u8 54, .int .u8 55, .int .u8 56, .int .u8 57] 9 9
  have c1 := sum32_one 9 1 h1
  have c2 := sum16_one 9 1 (h1.alloc (.cells #[.slice (some ⟨w.heap.size, 0, none⟩) 9 9] 30))
  rw [s32_nine, World.size_alloc] at c1
  rw [s16_nine, World.size_alloc, World.size_alloc] at c2
  have hb : Below w.heap.size w (((w.alloc (.cells #[.int .u8 49, .int .u8 50, .int .u8 51, .int .u8 52, .int .u8 53, .int .u8 54, .int .u8 55, .int .u8 56, .int .u8 57] 5 (9, 10))).alloc (.cells #[.slice (some ⟨w.heap.size, 0, none⟩) 9 9] 30)).alloc (.cells #[.slice (some ⟨w.heap.size, 0, none⟩) 9 9] 30)) :=
    (((Below.refl _ _).alloc (Nat.le_refl _) _).alloc (by simp) _).alloc (by simp; omega) _
  have C1 := Lib.hid c1
  have C2 := Lib.hid c2
  have HB := Lib.hid hb
  clear h1 c1 c2 hb
  go_enter Tryz.func89, Tryz.ntmps89
  go_wp2_with fail
  refine C1.out.mono ?_
  rintro e w' ⟨rfl, rfl⟩
  go_wp2_with fail
  refine C2.out.mono ?_
  rintro e w' ⟨rfl, rfl⟩
  go_wp2
  go_ret
  exact ⟨rfl, HB.out⟩
end Crc
end Go.Proofs.YtkhkcfbacnkcnaaGreatDoor
/- The document's sums of a text. -/
namespace Go.Proofs.YtkhkcfbacnkcnaaGreatDoor
open Go.RowKit Go.MapKept
namespace Crc

/-- a text's bytes -/
def tx (s : ByteArray) : List Nat := s.data.toList.map UInt8.toNat

theorem tx_len (s : ByteArray) : (tx s).length = s.size := by
  unfold tx
  rw [List.length_map, Array.length_toList]
  rfl
theorem tx_byt (s : ByteArray) : Byt (tx s) := by
  intro b hb
  obtain ⟨x, _, rfl⟩ := List.mem_map.1 hb
  exact x.toNat_lt
theorem tx_get {s : ByteArray} {i : Nat} (h : i < s.size) : (tx s)[i]?.getD 0 = (s[i]'h).toNat := by
  have h' : i < s.data.toList.length := by rw [Array.length_toList]; exact h
  simp only [tx, List.getElem?_map, List.getElem?_eq_getElem h', Option.map_some, Option.getD_some]
  rfl

theorem bit_div (x i : Nat) : x / 2 ^ i % 2 = (x.testBit i).toNat := by
  rw [Nat.testBit_eq_decide_div_mod_eq]
  rcases Nat.mod_two_eq_zero_or_one (x / 2 ^ i) with h | h <;> simp [h]

theorem A_bit (p x e : Nat) (he : e < 2) : A p (x ^^^ e) = if e = x % 2 then x / 2 else x / 2 ^^^ p := by
  unfold A
  rw [half_xor, odd_xor, Nat.div_eq_of_lt he, Nat.xor_zero]
  have := Nat.mod_lt x (show 0 < 2 by omega)
  by_cases h : e = x % 2
  · have : ¬ (x % 2 + e % 2) % 2 = 1 := by omega
    rw [if_pos h, if_neg this, Nat.xor_zero]
  · have : (x % 2 + e % 2) % 2 = 1 := by omega
    rw [if_neg h, if_pos this]

/-- the bit that is taken next -/
def bit (l : List Nat) (m : Nat) : Nat := le l / 2 ^ m % 2
theorem bit_lt (l : List Nat) (m : Nat) : bit l m < 2 := Nat.mod_lt _ (by omega)
theorem ser_step (p r : Nat) (l : List Nat) (m : Nat) : ser p r (le l) (m + 1) = if bit l m = ser p r (le l) m % 2 then ser p r (le l) m / 2 else ser p r (le l) m / 2 ^^^ p := A_bit p _ _ (bit_lt l m)

theorem ser32_lt (l : List Nat) (m : Nat) : ser P32 4294967295 (le l) m < 4294967296 := by
  induction m with
  | zero => show 4294967295 < _; omega
  | succ m ih =>
    rw [ser_step]
    split
    · omega
    · exact Nat.xor_lt_two_pow (n := 32) (by omega) (by decide)
theorem ser16_lt (l : List Nat) (m : Nat) : ser P16 65535 (le l) m < 65536 := by
  induction m with
  | zero => show 65535 < _; omega
  | succ m ih =>
    rw [ser_step]
    split
    · omega
    · exact Nat.xor_lt_two_pow (n := 16) (by omega) (by decide)

theorem bit32 {s : ByteArray} {m : Nat} (h : m / 8 < s.size) : bits .and .u32 (((s[m / 8]'h).toNat : Int) / 2 ^ (m % 8) % 4294967296) 1 = ((bit (tx s) m : Nat) : Int) := by
  have h1 : (((s[m / 8]'h).toNat : Int) / 2 ^ (m % 8) % 4294967296) = (((s[m / 8]'h).toNat / 2 ^ (m % 8) % 4294967296 : Nat) : Int) := by simp
  rw [h1]
  have h2 := u32_and_nat ((s[m / 8]'h).toNat / 2 ^ (m % 8) % 4294967296) 1 (by omega) (by omega)
  rw [nat_mask1] at h2
  refine h2.trans ?_
  unfold bit
  rw [bit_div, bit_le _ _ (tx_byt s) (by rw [tx_len]; omega), tx_get h, ← bit_div]
  omega

theorem bit16 {s : ByteArray} {m : Nat} (h : m / 8 < s.size) : bits .and .u16 (((s[m / 8]'h).toNat : Int) / 2 ^ (7 - m % 8) % 65536) 1 = ((bit ((tx s).map (rev 8)) m : Nat) : Int) := by
  have h1 : (((s[m / 8]'h).toNat : Int) / 2 ^ (7 - m % 8) % 65536) = (((s[m / 8]'h).toNat / 2 ^ (7 - m % 8) % 65536 : Nat) : Int) := by simp
  rw [h1]
  have h2 := u16_and_nat ((s[m / 8]'h).toNat / 2 ^ (7 - m % 8) % 65536) 1 (by omega) (by omega)
  rw [nat_mask1] at h2
  refine h2.trans ?_
  unfold bit
  have hl : m / 8 < (tx s).length := by rw [tx_len]; exact h
  have e : (((tx s).map (rev 8))[m / 8]?.getD 0) = rev 8 (s[m / 8]'h).toNat := by
    rw [← tx_get h, List.getElem?_map, List.getElem?_eq_getElem hl]
    rfl
  rw [bit_div, bit_le _ _ (Byt.rev8 _) (by rw [List.length_map, tx_len]; omega), e, bit_rev]
  have h8 : m % 8 < 8 := by omega
  simp only [h8, decide_true, Bool.true_and]
  rw [show 8 - 1 - m % 8 = 7 - m % 8 by omega, ← bit_div]
  omega

theorem rev_p16 : rev 16 P16 = 4129 := by decide

end Crc
end Go.Proofs.YtkhkcfbacnkcnaaGreatDoor
/- Words' bytes, and the program's sums of them. -/
namespace Go.Proofs.YtkhkcfbacnkcnaaGreatDoor
open Go.RowKit Go.MapKept
namespace Crc

/-- a word's bytes, the lowest first -/
def wb (x : Nat) : List Nat := (List.range 8).map fun k => x / 256 ^ k % 256

theorem wb_len (x : Nat) : (wb x).length = 8 := by simp [wb]
theorem wb_get {x k : Nat} (h : k < (wb x).length) : (wb x)[k] = x / 256 ^ k % 256 := by simp [wb]
theorem wb_byt (x : Nat) : Byt (wb x) := by
  intro b hb
  obtain ⟨k, _, rfl⟩ := List.mem_map.1 hb
  exact Nat.mod_lt _ (by omega)

/-- these words lie at A -/
structure Wds (w : World) (A : Option Addr) (l : List Nat) : Prop where
  u64 : ∀ x ∈ l, x < 18446744073709551616
  len : l.length ≤ 9223372036854775807
  at' : ∀ j (h : j < l.length), ∃ b o, A = some ⟨b, o, none⟩ ∧ b < w.heap.size ∧ w.cell? ⟨b, o + j, none⟩ = some (.int .u64 (l[j] : Int))

theorem Wds.keep {w w' : World} {A : Option Addr} {l : List Nat} (h : Wds w A l) (hb : Below w.heap.size w w') : Wds w' A l :=
  ⟨h.u64, h.len, fun j hj => by
    obtain ⟨b, o, e, hlt, hc⟩ := h.at' j hj
    exact ⟨b, o, e, Nat.lt_of_lt_of_le hlt hb.size, (hb.cell (p := ⟨b, o + j, none⟩) hlt).trans hc⟩⟩

def wflat (l : List Nat) : List Nat := l.flatMap wb
theorem wflat_take {l : List Nat} {m : Nat} (h : m < l.length) : wflat (l.take (m + 1)) = wflat (l.take m) ++ wb l[m] := by
  unfold wflat
  rw [List.take_succ_eq_append_getElem h, List.flatMap_append]
  simp
theorem wflat_byt (l : List Nat) : Byt (wflat l) := by
  intro b hb
  obtain ⟨q, _, hb⟩ := List.mem_flatMap.1 hb
  exact wb_byt q b hb

section
variable {w : World}
end
end Crc
end Go.Proofs.YtkhkcfbacnkcnaaGreatDoor
/- Bytes as a text; the document's bytes of words; CrcWords. -/
namespace Go.Proofs.YtkhkcfbacnkcnaaGreatDoor
open Go.RowKit Go.MapKept
namespace Crc

theorem ofNat_toNat {b : Nat} (h : b < 256) : (UInt8.ofNat b).toNat = b := by
  rw [UInt8.toNat_ofNat']
  omega

/-- the text of bytes -/
def str (l : List Nat) : ByteArray := ⟨(l.map UInt8.ofNat).toArray⟩
theorem str_size (l : List Nat) : (str l).size = l.length := by
  show ((l.map UInt8.ofNat).toArray).size = _
  rw [List.size_toArray, List.length_map]
theorem tx_str {l : List Nat} (h : Byt l) : tx (str l) = l := by
  unfold tx str
  rw [List.map_map]
  refine (List.map_congr_left (fun b hb => ?_)).trans (List.map_id l)
  exact ofNat_toNat (h b hb)

theorem conv_str {W : World} {A : Option Addr} {l : List Nat} (c : Nat) (h : Bts W A l) : (convert 30 9 (.slice A l.length c)).run Tryz.prog W = .ok (.string (str l)) W := by
  cases A with
  | none =>
    have hl : l = [] := by
      cases l with
      | nil => rfl
      | cons b l =>
        obtain ⟨_, _, e, _⟩ := h.at' 0 (by simp)
        cases e
    subst hl
    exact run_convert_bytes_nil W _ _ Tryz.underlying30 Tryz.underlying5 0 c _ Tryz.underlying9
  | some a =>
    have hr := run_convert_bytes_back (P := Tryz.prog) W 30 9 5 a c (l.map UInt8.ofNat) Tryz.underlying30 Tryz.underlying5 Tryz.underlying9 (fun j hj => by
      rw [List.length_map] at hj
      obtain ⟨b, o, e, _, hc⟩ := h.at' j hj
      injection e with e
      subst e
      rw [Go.WideShapes.add_plain, hc, List.getElem_map, ofNat_toNat (h.byt _ (List.getElem_mem hj))])
    rw [List.length_map] at hr
    exact hr

/-- bytes as cells -/
def u8s (l : List Nat) : List Value := l.map fun b : Nat => Value.int .u8 (b : Int)
theorem u8s_one (l : List Nat) : ∀ u ∈ u8s l, u.oneCell' = true := by
  intro u hu
  obtain ⟨x, _, rfl⟩ := List.mem_map.1 hu
  rfl

theorem own_bts {W : World} {B n c : Nat} {G : Option Addr} {bs : List Nat} (h : W.ownsRow B 5 1 (.slice G n c) n (u8s bs)) (hb : Byt bs) (hm : n ≤ 9223372036854775807) : Bts W G bs := by
  have hl : bs.length = n := by
    have := h.1
    simpa [u8s] using this
  refine ⟨hb, by omega, fun j hj => ?_⟩
  rcases h.2 with ⟨e, h0⟩ | ⟨g, cap, cur, e, _, hh, _, _, _, ht⟩
  · omega
  · injection e with e
    subst e
    refine ⟨g, 0, rfl, (Array.getElem?_eq_some_iff.1 hh).1, ?_⟩
    have := congrArg (·[j]?) ht
    simp only [Nat.mul_one, u8s] at this
    rw [List.getElem?_take, if_pos (by omega), List.getElem?_map, List.getElem?_eq_getElem hj] at this
    unfold World.cell?
    rw [hh, Nat.zero_add]
    simp only
    rw [← Array.getElem?_toList]
    simpa using this

theorem row_slice {B n : Nat} {W : World} {e : TypeId} {v : Value} {xs : List Value} (h : W.ownsRow B e 1 v n xs) : ∃ G c, v = .slice G n c := by
  rcases h.2 with ⟨e, h0⟩ | ⟨g, cap, cur, e, _⟩
  · exact ⟨none, 0, by rw [e, h0]⟩
  · exact ⟨_, _, e⟩
theorem row_base_lt {w : World} {B : Nat} {e : TypeId} {n : Nat} {v : Value} {xs : List Value} (h : w.ownsRow B e 1 v n xs) {g : Nat} (hg : v.ownBlock = some g) : B ≤ g := by
  rcases h.2 with ⟨e, _⟩ | ⟨g', cap, cur, e, hb, hh, _⟩
  · rw [e] at hg; simp [Value.ownBlock] at hg
  · rw [e] at hg
    simp only [Value.ownBlock, Option.some.injEq] at hg
    omega

theorem u8_info : (Tryz.prog.info? 5).map (fun i => (i.zero, i.size, i.bytes)) = some (some (.int .u8 0), 1, 1) := by kernel_rfl

/-- bytes of the call's own -/
def Got (w wr : World) (G : Option Addr) (n gc : Nat) (bs : List Nat) : Prop := wr.ownsRow w.heap.size 5 1 (.slice G n gc) n (u8s bs) ∧ Below w.heap.size w wr

theorem wflat_len (l : List Nat) : (wflat l).length = 8 * l.length := by
  unfold wflat
  induction l with
  | nil => rfl
  | cons x l ih => rw [List.flatMap_cons, List.length_append, ih, wb_len, List.length_cons]; omega

theorem div_pow (x j : Nat) : x / 256 ^ (j + 1) = x / 256 ^ j / 256 := by rw [Nat.pow_succ, Nat.div_div_eq_div_mul]

section
variable {w : World}
end
end Crc
end Go.Proofs.YtkhkcfbacnkcnaaGreatDoor
/- Bytes some bits of which are turned, and that the sums tell it. -/
namespace Go.Proofs.YtkhkcfbacnkcnaaGreatDoor
open Go.RowKit Go.MapKept
namespace Crc

/-- of l the bits from f on are turned that m says, m of i bits -/
structure Trn (l : List Nat) (f i m : Nat) (c : List Nat) : Prop where
  byt : Byt c
  len : c.length = l.length
  lt : m < 2 ^ i
  eq : le c = le l ^^^ m * 2 ^ f
  zero : m = 0 → c = l

theorem Trn.refl {l : List Nat} (h : Byt l) (f : Nat) : Trn l f 0 0 l := ⟨h, rfl, by simp, by simp, fun _ => rfl⟩
theorem Trn.skip {l c : List Nat} {f i m : Nat} (h : Trn l f i m c) : Trn l f (i + 1) m c := ⟨h.byt, h.len, by have := h.lt; rw [Nat.pow_succ]; omega, h.eq, h.zero⟩

theorem xor_shift (m i f : Nat) : (m ^^^ 2 ^ i) * 2 ^ f = m * 2 ^ f ^^^ 2 ^ (f + i) := by
  apply Nat.eq_of_testBit_eq
  intro j
  rw [Nat.pow_add, Nat.mul_comm (2 ^ f) (2 ^ i)]
  simp only [Nat.testBit_xor, Nat.testBit_mul_two_pow]
  by_cases h : f ≤ j <;> simp [h]

theorem bit_in {m i : Nat} (h : m < 2 ^ i) : m ^^^ 2 ^ i ≠ 0 ∧ m ^^^ 2 ^ i < 2 ^ (i + 1) := by
  constructor
  · intro h0
    have : (m ^^^ 2 ^ i).testBit i = true := by
      rw [Nat.testBit_xor, Nat.testBit_lt_two_pow h, Nat.testBit_two_pow_self]
      rfl
    rw [h0] at this
    simp at this
  · refine Nat.xor_lt_two_pow ?_ ?_
    · rw [Nat.pow_succ]; omega
    · exact Nat.pow_lt_pow_right (by omega) (by omega)

theorem Byt.set {l : List Nat} (h : Byt l) (j : Nat) {x : Nat} (hx : x < 256) : Byt (l.set j x) := fun b hb => by
  rcases List.mem_or_eq_of_mem_set hb with h1 | h1
  · exact h b h1
  · omega

theorem xor_bit_lt {x t : Nat} (hx : x < 256) (ht : t < 8) : x ^^^ 2 ^ t < 256 := Nat.xor_lt_two_pow (n := 8) hx (Nat.pow_lt_pow_right (by omega) ht)

theorem get_byt {l : List Nat} (h : Byt l) (j : Nat) : l[j]?.getD 0 < 256 := by
  rcases Nat.lt_or_ge j l.length with h1 | h1
  · rw [List.getElem?_eq_getElem h1]
    exact h _ (List.getElem_mem h1)
  · rw [List.getElem?_eq_none h1]
    simp

/-- one bit more -/
theorem Trn.turn {l c : List Nat} {f i m : Nat} (h : Trn l f i m c) (hk : (f + i) / 8 < l.length) : Trn l f (i + 1) (m ^^^ 2 ^ i) (c.set ((f + i) / 8) (c[(f + i) / 8]?.getD 0 ^^^ 2 ^ ((f + i) % 8))) := by
  have hb := bit_in h.lt
  have ht : (f + i) % 8 < 8 := Nat.mod_lt _ (by omega)
  refine ⟨h.byt.set _ (xor_bit_lt (get_byt h.byt _) ht), by rw [List.length_set]; exact h.len, hb.2, ?_, fun h0 => absurd h0 hb.1⟩
  rw [le_set c _ _ h.byt (by rw [h.len]; exact hk) ht, h.eq, Nat.xor_assoc, xor_shift]
  congr 2
  congr 1
  omega

theorem Trn.told32 {l c : List Nat} {f i m : Nat} (h : Trn l f i m c) (hl : Byt l) (hi : i ≤ 32) (hf : f ≤ 8 * l.length) (h0 : m ≠ 0) : S32 c ≠ S32 l := by
  have hm : m < 2 ^ (31 + 1) := Nat.lt_of_lt_of_le h.lt (Nat.pow_le_pow_right (by omega) hi)
  have := burst (p := P32) (w := 31) (by decide) (by decide) 4294967295 f m l c hl h.byt h.len hm h0 hf h.eq
  have h1 := sm32_lt c 4294967295 (by omega) h.byt
  have h2 := sm32_lt l 4294967295 (by omega) hl
  unfold S32
  omega

theorem Trn.told16 {l d : List Nat} {f i m : Nat} (h : Trn (l.map (rev 8)) f i m (d.map (rev 8))) (hi : i ≤ 16) (hf : f ≤ 8 * l.length) (h0 : m ≠ 0) : S16 d ≠ S16 l := by
  have hm : m < 2 ^ (15 + 1) := Nat.lt_of_lt_of_le h.lt (Nat.pow_le_pow_right (by omega) hi)
  have hb := burst (p := P16) (w := 15) (by decide) (by decide) 65535 f m (l.map (rev 8)) (d.map (rev 8)) (Byt.rev8 l) h.byt h.len hm h0 (by rw [List.length_map]; exact hf) h.eq
  intro e
  exact hb (rev_inj (w := 16) (sm16_lt _ _ (by omega) (Byt.rev8 d)) (sm16_lt _ _ (by omega) (Byt.rev8 l)) e)

theorem map_set_rev (d : List Nat) (j t : Nat) (ht : t < 8) : (d.set j (d[j]?.getD 0 ^^^ 2 ^ (7 - t))).map (rev 8) = (d.map (rev 8)).set j ((d.map (rev 8))[j]?.getD 0 ^^^ 2 ^ t) := by
  rw [List.map_set, rev_turn ht]
  congr 2
  rw [List.getElem?_map]
  cases d[j]? with
  | none => decide
  | some x => rfl

theorem map_rev_inj {l d : List Nat} (hl : Byt l) (hd : Byt d) (h : d.map (rev 8) = l.map (rev 8)) : d = l := by
  have hlen : d.length = l.length := by
    have := congrArg List.length h
    simpa using this
  refine List.ext_getElem hlen (fun j h1 h2 => ?_)
  have := congrArg (·[j]?) h
  simp only [List.getElem?_map, List.getElem?_eq_getElem h1, List.getElem?_eq_getElem h2, Option.map_some, Option.some.injEq] at this
  exact rev_inj (w := 8) (hd _ (List.getElem_mem h1)) (hl _ (List.getElem_mem h2)) this

theorem str_inj {l c : List Nat} (hl : Byt l) (hc : Byt c) (h : str c = str l) : c = l := by
  rw [← tx_str hl, ← tx_str hc, h]
end Crc
end Go.Proofs.YtkhkcfbacnkcnaaGreatDoor
/- An entry's bytes as a list of numbers, whether an entry may be, and whose bytes they are. -/
namespace Go.Proofs.YtkhkcfbacnkcnaaGreatDoor
open Go.RowKit Go.MapKept
namespace Ent

/-- it is a name -/
def Right (l : List Nat) : Prop := (1 ≤ l.length ∧ l.length ≤ 48) ∧ l ≠ [46] ∧ l ≠ [46, 46] ∧ ∀ x ∈ l, x ≠ 0 ∧ x ≠ 47
instance (l : List Nat) : Decidable (Right l) := by unfold Right; infer_instance
def right (l : List Nat) : Bool := decide (Right l)
theorem right_iff {l : List Nat} : right l = true ↔ Right l := decide_eq_true_iff
theorem right_no {l : List Nat} (h : ¬ Right l) : right l = false := decide_eq_false h

/-- it may be -/
def may (l : List Nat) (i : Int) : Bool := right l && decide (0 ≤ i ∧ i ≤ 65533)
theorem may_iff {l : List Nat} {i : Int} : may l i = true ↔ Right l ∧ 0 ≤ i ∧ i ≤ 65533 := by
  unfold may
  rw [Bool.and_eq_true, right_iff, decide_eq_true_iff]

/-- a number's four bytes -/
def q4 (x : Nat) : List Nat := [x % 256, x / 256 % 256, x / 65536 % 256, x / 16777216 % 256]
/-- the 60 bytes that are summed -/
def front (l : List Nat) (i : Nat) : List Nat := [i % 256, i / 256 % 256, l.length, 0] ++ l ++ List.replicate (56 - l.length) 0
/-- the bytes -/
def enc (l : List Nat) (i : Nat) : List Nat := front l i ++ q4 (Crc.S32 (front l i))

theorem s32_lt (l : List Nat) : Crc.S32 l < 4294967296 := by
  unfold Crc.S32
  omega

theorem front_len {l : List Nat} (h : l.length ≤ 48) (i : Nat) : (front l i).length = 60 := by
  unfold front
  simp
  omega
theorem q4_len (x : Nat) : (q4 x).length = 4 := rfl
theorem enc_len {l : List Nat} (h : l.length ≤ 48) (i : Nat) : (enc l i).length = 64 := by
  unfold enc
  rw [List.length_append, front_len h, q4_len]
theorem q4_byt (x : Nat) : Crc.Byt (q4 x) := by
  intro b hb
  simp only [q4, List.mem_cons, List.not_mem_nil, or_false] at hb
  omega
theorem front_byt {l : List Nat} (hl : Crc.Byt l) (h : l.length ≤ 48) (i : Nat) : Crc.Byt (front l i) := by
  intro b hb
  unfold front at hb
  simp only [List.mem_append, List.mem_cons, List.not_mem_nil, or_false, List.mem_replicate] at hb
  rcases hb with (hb | hb) | hb
  · omega
  · exact hl b hb
  · omega
theorem enc_byt {l : List Nat} (hl : Crc.Byt l) (h : l.length ≤ 48) (i : Nat) : Crc.Byt (enc l i) := (front_byt hl h i).append (q4_byt _)

/-- the name that bytes tell -/
def name (b : List Nat) : List Nat := (b.drop 4).take (b[2]?.getD 0)
/-- the number that bytes tell -/
def num (b : List Nat) : Nat := b[0]?.getD 0 + 256 * b[1]?.getD 0

theorem enc_cons (l : List Nat) (i : Nat) : enc l i = i % 256 :: i / 256 % 256 :: l.length :: 0 :: (l ++ (List.replicate (56 - l.length) 0 ++ q4 (Crc.S32 (front l i)))) := by
  unfold enc
  conv => lhs; arg 1; unfold front
  simp
theorem name_enc (l : List Nat) (i : Nat) : name (enc l i) = l := by
  unfold name
  rw [enc_cons]
  simp
theorem num_enc (l : List Nat) {i : Nat} (h : i < 65536) : num (enc l i) = i := by
  unfold num
  rw [enc_cons]
  simp
  omega
theorem len_enc (l : List Nat) (i : Nat) : (enc l i)[2]?.getD 0 = l.length := by
  rw [enc_cons]
  rfl

/-- whose they are -/
def dec (b : List Nat) : Option (List Nat × Nat) :=
  if b.length = 64 ∧ b[2]?.getD 0 ≤ 48 ∧ may (name b) (num b : Nat) = true ∧ b = enc (name b) (num b) then some (name b, num b) else none

theorem may_len {l : List Nat} {i : Int} (h : may l i = true) : l.length ≤ 48 := (may_iff.1 h).1.1.2
theorem may_nat {l : List Nat} {i : Int} (h : may l i = true) : ∃ k : Nat, i = (k : Int) ∧ k ≤ 65533 := by
  have := may_iff.1 h
  obtain ⟨k, rfl⟩ := Int.eq_ofNat_of_zero_le this.2.1
  exact ⟨k, rfl, by omega⟩

theorem dec_enc {l : List Nat} {i : Nat} (h : may l (i : Int) = true) : dec (enc l i) = some (l, i) := by
  have h1 := may_len h
  obtain ⟨k, e, hk⟩ := may_nat h
  have h2 : i < 65536 := by omega
  unfold dec
  rw [name_enc, num_enc l h2, len_enc]
  exact if_pos ⟨enc_len h1 i, h1, h, rfl⟩

theorem dec_some {b l : List Nat} {i : Nat} (h : dec b = some (l, i)) : may l (i : Int) = true ∧ b = enc l i := by
  unfold dec at h
  split at h
  · rename_i hc
    injection h with h
    injection h with h1 h2
    subst h1 h2
    exact hc.2.2
  · cases h

/-- what is no bytes of one that may be -/
theorem dec_none {b : List Nat} (h : ∀ (l : List Nat) (i : Nat), may l (i : Int) = true → b ≠ enc l i) : dec b = none := by
  cases e : dec b with
  | none => rfl
  | some q =>
    obtain ⟨l, i⟩ := q
    have := dec_some e
    exact absurd this.2 (h l i this.1)

/-- the text of a text's bytes -/
theorem str_tx (s : ByteArray) : Crc.str (Crc.tx s) = s := by
  unfold Crc.str Crc.tx
  rw [List.map_map]
  have e : (UInt8.ofNat ∘ UInt8.toNat) = id := by
    funext x
    simp
  rw [e, List.map_id]
end Ent
end Go.Proofs.YtkhkcfbacnkcnaaGreatDoor
/- Right and May, the program's and the document's. -/
namespace Go.Proofs.YtkhkcfbacnkcnaaGreatDoor
open Go.RowKit Go.MapKept
namespace Ent

theorem tx_toList (s : ByteArray) : Crc.tx s = s.toList.map UInt8.toNat := by
  obtain ⟨a⟩ := s
  obtain ⟨l⟩ := a
  rw [ByteArray.toList_mk]
  rfl
theorem map_inj {l m : List UInt8} (h : l.map UInt8.toNat = m.map UInt8.toNat) : l = m := by
  induction l generalizing m with
  | nil => cases m with
    | nil => rfl
    | cons => simp at h
  | cons a l ih =>
    cases m with
    | nil => simp at h
    | cons b m =>
      simp only [List.map_cons, List.cons.injEq] at h
      rw [ih h.2, UInt8.toNat_inj.1 h.1]
theorem tx_eq {s : ByteArray} {l : List UInt8} : s.toList = l ↔ Crc.tx s = l.map UInt8.toNat := by
  rw [tx_toList]
  exact ⟨fun h => by rw [h], map_inj⟩

/-- as far as m no byte is wrong -/
def Good (s : ByteArray) (m : Nat) : Prop := ∀ j (h : j < s.size), j < m → (s[j]'h).toNat ≠ 0 ∧ (s[j]'h).toNat ≠ 47
theorem Good.next {s : ByteArray} {m : Nat} (h : Good s m) (hm : m < s.size) (h0 : (s[m]'hm).toNat ≠ 0) (h1 : (s[m]'hm).toNat ≠ 47) : Good s (m + 1) := by
  intro j hj hlt
  rcases Nat.lt_or_ge j m with h2 | h2
  · exact h j hj h2
  · obtain rfl : j = m := by omega
    exact ⟨h0, h1⟩
theorem Good.all {s : ByteArray} (h : Good s s.size) : ∀ x ∈ Crc.tx s, x ≠ 0 ∧ x ≠ 47 := by
  intro x hx
  obtain ⟨j, hj, rfl⟩ := List.getElem_of_mem hx
  have hj' : j < s.size := by rw [Crc.tx_len] at hj; exact hj
  have := Crc.tx_get hj'
  rw [List.getElem?_eq_getElem hj, Option.getD_some] at this
  rw [this]
  exact h j hj' hj'
theorem bad_byte {s : ByteArray} {m : Nat} (hm : m < s.size) (h : (s[m]'hm).toNat = 0 ∨ (s[m]'hm).toNat = 47) : ¬ Right (Crc.tx s) := by
  intro hr
  have hj : m < (Crc.tx s).length := by rw [Crc.tx_len]; exact hm
  have := hr.2.2.2 ((Crc.tx s)[m]'hj) (List.getElem_mem hj)
  have e := Crc.tx_get hm
  rw [List.getElem?_eq_getElem hj, Option.getD_some] at e
  rw [e] at this
  omega

theorem no_right {s : ByteArray} (h : s.size < 1 ∨ 48 < s.size ∨ s.toList = [46] ∨ s.toList = [46, 46]) : ¬ Right (Crc.tx s) := by
  intro hr
  have hl := hr.1
  rw [Crc.tx_len] at hl
  rcases h with h | h | h | h
  · omega
  · omega
  · exact hr.2.1 (tx_eq.1 h)
  · exact hr.2.2.1 (tx_eq.1 h)

set_option maxHeartbeats 1000000 in
theorem right_any (w : World) (s : ByteArray) (hs : s.size ≤ 9223372036854775807) :
    Calls Tryz.prog 98 #[.string s] w fun r w' => r = .returned (.bool (right (Crc.tx s))) ∧ w = w' := by
  by_cases h : s.size < 1 ∨ 48 < s.size ∨ s.toList = [46] ∨ s.toList = [46, 46]
  · have HN := Lib.hid (right_no (no_right h))
    go_enter Tryz.func98, Tryz.ntmps98
    rcases h with h | h | h | h
    all_goals go_wp2
    all_goals go_ret
    all_goals exact ⟨by rw [HN.out]; rfl, rfl⟩
  · have h1 : 1 ≤ s.size := by omega
    have h2 : s.size ≤ 48 := by omega
    have h3 : (s.toList == [46]) = false := by simpa using fun e => h (.inr (.inr (.inl e)))
    have h4 : (s.toList == [46, 46]) = false := by simpa using fun e => h (.inr (.inr (.inr e)))
    have h5 : ¬ s.toList = [46] := fun e => h (.inr (.inr (.inl e)))
    have h6 : ¬ s.toList = [46, 46] := fun e => h (.inr (.inr (.inr e)))
    clear h
    go_enter Tryz.func98, Tryz.ntmps98
    go_wp2
    go_loopw [22] (fun i wr => ∃ m : Nat, m ≤ s.size ∧ i = .int .i64 (m : Int) ∧ w = wr ∧ Good s m) (fun i _ => s.size - (intOf i).toNat)
    case atStart => exact ⟨0, Nat.zero_le _, rfl, rfl, fun j _ h => absurd h (by omega)⟩
    case round =>
      obtain ⟨m, hm, rfl, rfl, hg⟩ := hrel
      have HG := Lib.hid hg
      clear hg
      by_cases hlt : m < s.size
      · go_wp2
        · rename_i hx
          go_ret
          exact ⟨by rw [right_no (bad_byte hlt (.inl hx))]; rfl, rfl⟩
        · rename_i hx
          go_ret
          exact ⟨by rw [right_no (bad_byte hlt (by simp at hx; omega))]; rfl, rfl⟩
        · rename_i hx
          exact ⟨⟨m + 1, by omega, by go_num, trivial, HG.out.next hlt (by simp at hx; omega) (by simp at hx; omega)⟩, by simp [intOf]; omega⟩
      · obtain rfl : m = s.size := by omega
        have HR := Lib.hid (right_iff.2 ⟨⟨by rw [Crc.tx_len]; exact h1, by rw [Crc.tx_len]; exact h2⟩, fun e => h5 (tx_eq.2 e), fun e => h6 (tx_eq.2 e), HG.out.all⟩)
        go_wp2
        go_ret
        exact ⟨by rw [HR.out]; rfl, rfl⟩

set_option maxHeartbeats 1000000 in
theorem refRight_any (w : World) (s : ByteArray) (hs : s.size ≤ 9223372036854775807) :
    Calls Tryz.prog 81 #[.string s] w fun r w' => r = .returned (.bool (right (Crc.tx s))) ∧ w = w' := by
  by_cases h : s.size < 1 ∨ 48 < s.size ∨ s.toList = [46] ∨ s.toList = [46, 46]
  · have HN := Lib.hid (right_no (no_right h))
    go_enter Tryz.func81, Tryz.ntmps81
    rcases h with h | h | h | h
    · have h' : s.toList = [] := tx_eq.2 (List.length_eq_zero_iff.1 (by rw [Crc.tx_len]; omega))
      go_wp2
      go_ret
      exact ⟨by rw [HN.out]; rfl, rfl⟩
    all_goals go_wp2
    all_goals go_ret
    all_goals exact ⟨by rw [HN.out]; rfl, rfl⟩
  · have h1 : 1 ≤ s.size := by omega
    have h2 : s.size ≤ 48 := by omega
    have h3 : (s.toList == [46]) = false := by simpa using fun e => h (.inr (.inr (.inl e)))
    have h4 : (s.toList == [46, 46]) = false := by simpa using fun e => h (.inr (.inr (.inr e)))
    have h5 : ¬ s.toList = [46] := fun e => h (.inr (.inr (.inl e)))
    have h6 : ¬ s.toList = [46, 46] := fun e => h (.inr (.inr (.inr e)))
    have h7 : ¬ s.toList = [] := fun e => by
      have := tx_eq.1 e
      have h8 := Crc.tx_len s
      rw [this] at h8
      simp at h8
      omega
    have h8 : (s.toList == []) = false := by simpa using h7
    clear h
    go_enter Tryz.func81, Tryz.ntmps81
    go_wp2
    go_loopw [3] (fun i wr => ∃ m : Nat, m ≤ s.size ∧ i = .int .i64 (m : Int) ∧ w = wr ∧ Good s m) (fun i _ => s.size - (intOf i).toNat)
    case atStart => exact ⟨0, Nat.zero_le _, rfl, rfl, fun j _ h => absurd h (by omega)⟩
    case round =>
      obtain ⟨m, hm, rfl, rfl, hg⟩ := hrel
      have HG := Lib.hid hg
      clear hg
      by_cases hlt : m < s.size
      · go_wp2
        · rename_i hx
          go_ret
          exact ⟨by rw [right_no (bad_byte hlt (.inl hx))]; rfl, rfl⟩
        · rename_i hx
          go_ret
          exact ⟨by rw [right_no (bad_byte hlt (by simp at hx; omega))]; rfl, rfl⟩
        · rename_i hx
          exact ⟨⟨m + 1, by omega, by go_num, trivial, HG.out.next hlt (by simp at hx; omega) (by simp at hx; omega)⟩, by simp [intOf]; omega⟩
      · obtain rfl : m = s.size := by omega
        have HR := Lib.hid (right_iff.2 ⟨⟨by rw [Crc.tx_len]; exact h1, by rw [Crc.tx_len]; exact h2⟩, fun e => h5 (tx_eq.2 e), fun e => h6 (tx_eq.2 e), HG.out.all⟩)
        go_wp2
        go_ret
        exact ⟨by rw [HR.out]; rfl, rfl⟩
end Ent
end Go.Proofs.YtkhkcfbacnkcnaaGreatDoor
/- Which of two paths stands ahead: of no program. -/
namespace Go.Proofs.YtkhkcfbacnkcnaaGreatDoor
open Go.RowKit Go.MapKept
namespace Pat

theorem bl_irr : ∀ l : List UInt8, Op.bytesLess l l = false
  | [] => rfl
  | a :: x => by
    rw [Op.bytesLess, bl_irr x]
    simp
theorem bl_tot : ∀ l m : List UInt8, l ≠ m → Op.bytesLess l m = !Op.bytesLess m l
  | [], [], h => absurd rfl h
  | [], _ :: _, _ => rfl
  | _ :: _, [], _ => rfl
  | a :: x, b :: y, h => by
    rw [Op.bytesLess, Op.bytesLess]
    by_cases e : a = b
    · subst e
      have hx : x ≠ y := fun e => h (by rw [e])
      rw [bl_tot x y hx]
      simp
    · have h1 : (a == b) = false := by simpa using e
      have h2 : (b == a) = false := by simpa using fun e' => e e'.symm
      rw [h1, h2]
      simp only [Bool.false_and, Bool.or_false]
      have hne : a.toNat ≠ b.toNat := fun h => e (UInt8.toNat_inj.1 h)
      by_cases h3 : a < b
      · have h4 : ¬ b < a := by rw [UInt8.lt_iff_toNat_lt] at *; omega
        simp [h3, h4]
      · have h4 : b < a := by rw [UInt8.lt_iff_toNat_lt] at *; omega
        simp [h3, h4]

/-- is one name ahead of another one? -/
def less (a b : ByteArray) : Bool := Op.bytesLess a.toList b.toList
theorem toList_inj {a b : ByteArray} (h : a.toList = b.toList) : a = b := by
  have h1 := Ent.tx_toList a
  have h2 := Ent.tx_toList b
  rw [h, ← h2] at h1
  rw [← Ent.str_tx a, ← Ent.str_tx b, h1]
theorem less_irr (a : ByteArray) : less a a = false := bl_irr _
theorem less_tot {a b : ByteArray} (h : a ≠ b) : less a b = !less b a := bl_tot _ _ (fun e => h (toList_inj e))

/-- is one path ahead of another one? -/
def bef : List ByteArray → List ByteArray → Bool
  | _, [] => false
  | [], _ :: _ => true
  | a :: x, b :: y => if a = b then bef x y else less a b
/-- 0: the same; below: the first is ahead -/
def cmpL : List ByteArray → List ByteArray → Int
  | [], [] => 0
  | _ :: _, [] => 1
  | [], _ :: _ => -1
  | a :: x, b :: y => if a = b then cmpL x y else if less a b then -1 else 1

theorem cmpL_bef : ∀ x y, decide (cmpL x y < 0) = bef x y
  | [], [] => rfl
  | _ :: _, [] => rfl
  | [], _ :: _ => rfl
  | a :: x, b :: y => by
    rw [cmpL, bef]
    split
    · exact cmpL_bef x y
    · split
      · rename_i h; rw [h]; rfl
      · rename_i h; rw [Bool.not_eq_true] at h; rw [h]; rfl
theorem bef_irr : ∀ x, bef x x = false
  | [] => rfl
  | a :: x => by rw [bef, if_pos rfl, bef_irr x]
theorem bef_tot : ∀ x y, x ≠ y → bef x y = !bef y x
  | [], [], h => absurd rfl h
  | [], _ :: _, _ => rfl
  | _ :: _, [], _ => rfl
  | a :: x, b :: y, h => by
    rw [bef, bef]
    by_cases e : a = b
    · subst e
      rw [if_pos rfl, if_pos rfl]
      exact bef_tot x y (fun e => h (by rw [e]))
    · rw [if_neg e, if_neg (fun e' => e e'.symm)]
      exact less_tot e
theorem bef_asym {x y : List ByteArray} (h : bef x y = true) : bef y x = false := by
  by_cases e : x = y
  · subst e; rw [bef_irr] at h; cases h
  · rw [bef_tot x y e] at h; simpa using h
theorem bef_one {x y : List ByteArray} (h : bef x y = false) (h' : bef y x = false) : x = y := by
  by_cases e : x = y
  · exact e
  · rw [bef_tot x y e, h'] at h; cases h
theorem bef_kid : ∀ (l : List ByteArray) (n : ByteArray), bef l (l ++ [n]) = true
  | [], _ => rfl
  | a :: x, n => by rw [List.cons_append, bef, if_pos rfl, bef_kid x n]
theorem bef_past : ∀ (l o : List ByteArray) (n : ByteArray), bef l o = true → o.take l.length ≠ l → bef (l ++ [n]) o = true
  | [], o, _, _, h => absurd (by simp) h
  | a :: x, [], _, h, _ => by rw [bef] at h; cases h
  | a :: x, b :: y, n, h, h' => by
    rw [bef] at h
    rw [List.cons_append, bef]
    by_cases e : a = b
    · subst e
      rw [if_pos rfl] at h ⊢
      exact bef_past x y n h (fun e => h' (by rw [List.length_cons, List.take_succ_cons, e]))
    · rw [if_neg e] at h ⊢
      exact h

/-! As far as k both are the same. -/
theorem drop_cons {x : List ByteArray} {k : Nat} (h : k < x.length) : x.drop k = x[k] :: x.drop (k + 1) := List.drop_eq_getElem_cons h
theorem drop_end {x : List ByteArray} {k : Nat} (h : x.length ≤ k) : x.drop k = [] := List.drop_eq_nil_of_le h
theorem bef_same {x y : List ByteArray} {k : Nat} (h : k < x.length) (h' : k < y.length) (e : x[k] = y[k]) : bef (x.drop k) (y.drop k) = bef (x.drop (k + 1)) (y.drop (k + 1)) := by
  rw [drop_cons h, drop_cons h', bef, if_pos e]
theorem bef_diff {x y : List ByteArray} {k : Nat} (h : k < x.length) (h' : k < y.length) (e : x[k] ≠ y[k]) : bef (x.drop k) (y.drop k) = less x[k] y[k] := by
  rw [drop_cons h, drop_cons h', bef, if_neg e]
theorem bef_end {x y : List ByteArray} {k : Nat} (h : y.length ≤ k) : bef (x.drop k) (y.drop k) = false := by
  rw [drop_end h]
  cases x.drop k <;> rfl
theorem bef_over {x y : List ByteArray} (h : x.length ≤ y.length) : bef (x.drop x.length) (y.drop x.length) = decide (x.length < y.length) := by
  rw [List.drop_length]
  by_cases e : x.length < y.length
  · rw [drop_cons e, bef, decide_eq_true e]
  · rw [drop_end (by omega), bef, decide_eq_false e]
theorem cmp_same {x y : List ByteArray} {k : Nat} (h : k < x.length) (h' : k < y.length) (e : x[k] = y[k]) : cmpL (x.drop k) (y.drop k) = cmpL (x.drop (k + 1)) (y.drop (k + 1)) := by
  rw [drop_cons h, drop_cons h', cmpL, if_pos e]
theorem cmp_diff {x y : List ByteArray} {k : Nat} (h : k < x.length) (h' : k < y.length) (e : x[k] ≠ y[k]) : cmpL (x.drop k) (y.drop k) = if less x[k] y[k] then -1 else 1 := by
  rw [drop_cons h, drop_cons h', cmpL, if_neg e]
theorem cmp_end {x y : List ByteArray} {k : Nat} (h : k < x.length) (h' : y.length ≤ k) : cmpL (x.drop k) (y.drop k) = 1 := by
  rw [drop_cons h, drop_end h', cmpL]
theorem cmp_over {x y : List ByteArray} (h : x.length ≤ y.length) : cmpL (x.drop x.length) (y.drop x.length) = if x.length < y.length then -1 else 0 := by
  rw [List.drop_length]
  by_cases e : x.length < y.length
  · rw [drop_cons e, cmpL, if_pos e]
  · rw [drop_end (by omega), cmpL, if_neg e]
theorem take_same {x y : List ByteArray} {k : Nat} (h : k < x.length) (h' : k < y.length) (e : x[k] = y[k]) (ht : x.take k = y.take k) : x.take (k + 1) = y.take (k + 1) := by
  rw [List.take_succ_eq_append_getElem h, List.take_succ_eq_append_getElem h', e, ht]
end Pat
end Go.Proofs.YtkhkcfbacnkcnaaGreatDoor
/- Names as they lie in memory. -/
namespace Go.Proofs.YtkhkcfbacnkcnaaGreatDoor
open Go.RowKit Go.MapKept
namespace Pat

/-- names as they lie -/
structure Txs (w : World) (A : Option Addr) (l : List ByteArray) : Prop where
  size : ∀ s ∈ l, s.size ≤ 9223372036854775807
  len : l.length ≤ 9223372036854775807
  at' : ∀ j (h : j < l.length), ∃ b o, A = some ⟨b, o, none⟩ ∧ b < w.heap.size ∧ w.cell? ⟨b, o + j, none⟩ = some (.string l[j])
theorem Txs.keepN {w w' : World} {N : Nat} {A : Option Addr} {l : List ByteArray} (h : Txs w A l) (hb : Below N w w') (hN : ∀ a, A = some a → a.block < N) : Txs w' A l :=
  ⟨h.size, h.len, fun j hj => by
    obtain ⟨b, o, e, hlt, hc⟩ := h.at' j hj
    exact ⟨b, o, e, Nat.lt_of_lt_of_le hlt hb.size, (hb.cell (p := ⟨b, o + j, none⟩) (show b < N from hN _ e)).trans hc⟩⟩
theorem Txs.keep {w w' : World} {A : Option Addr} {l : List ByteArray} (h : Txs w A l) (hb : Below w.heap.size w w') : Txs w' A l :=
  ⟨h.size, h.len, fun j hj => by
    obtain ⟨b, o, e, hlt, hc⟩ := h.at' j hj
    exact ⟨b, o, e, Nat.lt_of_lt_of_le hlt hb.size, (hb.cell (p := ⟨b, o + j, none⟩) hlt).trans hc⟩⟩
theorem Txs.drew {w : World} {A : Option Addr} {l : List ByteArray} (h : Txs w A l) : Txs w.drew A l := h.keep (Below.refl _ _).drew
theorem Txs.drewN {w : World} {A : Option Addr} {l : List ByteArray} (h : Txs w A l) (k : Nat) : Txs (w.drewN k) A l := ⟨h.size, h.len, h.at'⟩
theorem Txs.alloc {w : World} {A : Option Addr} {l : List ByteArray} (h : Txs w A l) (o : Obj) : Txs (w.alloc o) A l := h.keep ((Below.refl _ _).alloc (Nat.le_refl _) o)
theorem txs_nil (w : World) (A : Option Addr) : Txs w A [] := ⟨fun _ h => by simp at h, by simp, fun j h => by simp at h⟩
/-- the first n of them -/
theorem Txs.take {w : World} {A : Option Addr} {l : List ByteArray} (h : Txs w A l) (n : Nat) : Txs w A (l.take n) :=
  ⟨fun s hs => h.size s (List.mem_of_mem_take hs), by have := h.len; rw [List.length_take]; omega, fun j hj => by
    have hj' : j < l.length := by rw [List.length_take] at hj; omega
    obtain ⟨b, o, e, hlt, hc⟩ := h.at' j hj'
    exact ⟨b, o, e, hlt, by rw [hc, List.getElem_take]⟩⟩

abbrev strs (l : List ByteArray) : List Value := l.map .string
theorem strs_one (l : List ByteArray) : ∀ u ∈ strs l, u.oneCell' = true := by
  intro u hu
  obtain ⟨x, _, rfl⟩ := List.mem_map.1 hu
  rfl
theorem txs_news {W : World} {ad : Addr} {l : List ByteArray} (h : Txs W (some ad) l) : ∀ j u, (strs l)[j]? = some u → W.cell? (ad.add j) = some u := by
  intro j u hu
  have hj : j < l.length := by
    have := (List.getElem?_eq_some_iff.1 hu).1
    simpa [strs] using this
  obtain ⟨b, o, e, _, hc⟩ := h.at' j hj
  injection e with e
  subst e
  rw [Go.WideShapes.add_plain, hc, ← hu]
  simp [strs, List.getElem?_eq_getElem hj]
/-- a row of names of the call's own -/
theorem own_txs {W : World} {B n c : Nat} {t : TypeId} {G : Option Addr} {l : List ByteArray} (h : W.ownsRow B t 1 (.slice G n c) n (strs l)) (hs : ∀ s ∈ l, s.size ≤ 9223372036854775807) (hl : n ≤ 9223372036854775807) : Txs W G l ∧ l.length = n := by
  have hln : l.length = n := by
    have := h.1
    simp only [strs, List.length_map] at this
    omega
  refine ⟨⟨hs, by omega, fun j hj => ?_⟩, hln⟩
  rcases h.2 with ⟨e, h0⟩ | ⟨g, cap, cur, e, hB, hh, _, _, _, ht⟩
  · omega
  · injection e with e
    subst e
    refine ⟨g, 0, rfl, (Array.getElem?_eq_some_iff.1 hh).1, ?_⟩
    have := congrArg (·[j]?) ht
    rw [List.getElem?_take, if_pos (by omega)] at this
    unfold World.cell?
    rw [hh, Nat.zero_add]
    simp only
    rw [← Array.getElem?_toList]
    refine this.trans ?_
    simp [strs, List.getElem?_eq_getElem hj]
theorem own_keepN {w w' : World} {B N n : Nat} {t : TypeId} {v : Value} {xs : List Value} (h : w.ownsRow B t 1 v n xs) (hb : Below N w w') (hN : ∀ g, v.ownBlock = some g → g < N) : w'.ownsRow B t 1 v n xs := by
  rcases h with ⟨h1, h2⟩
  refine ⟨h1, ?_⟩
  rcases h2 with h0 | ⟨g, cap, cur, e, hB, hh, hr⟩
  · exact .inl h0
  · exact .inr ⟨g, cap, cur, e, hB, (hb.block g (hN g (by rw [e]; rfl))).trans hh, hr⟩
theorem own_keep {w w' : World} {B n : Nat} {t : TypeId} {v : Value} {xs : List Value} (h : w.ownsRow B t 1 v n xs) (hb : Below w.heap.size w w') : w'.ownsRow B t 1 v n xs :=
  own_keepN h hb (fun g hg => (World.ownsRow.lt h g hg).2)
theorem row_slice {B n : Nat} {W : World} {e : TypeId} {v : Value} {xs : List Value} (h : W.ownsRow B e 1 v n xs) : ∃ G c, v = .slice G n c := by
  rcases h.2 with ⟨e, h0⟩ | ⟨g, cap, cur, e, _⟩
  · exact ⟨none, 0, by rw [e, h0]⟩
  · exact ⟨_, _, e⟩
theorem row_base_lt {w : World} {B : Nat} {e : TypeId} {n : Nat} {v : Value} {xs : List Value} (h : w.ownsRow B e 1 v n xs) {g : Nat} (hg : v.ownBlock = some g) : B ≤ g := (World.ownsRow.lt h g hg).1
theorem str_info : (Tryz.prog.info? 9).map (fun i => (i.zero, i.size, i.bytes)) = some (some (.string ByteArray.empty), 1, 16) := by kernel_rfl
theorem info_parts {t : TypeId} {v : Value} {n m : Nat} (h : (Tryz.prog.info? t).map (fun i => (i.zero, i.size, i.bytes)) = some (some v, n, m)) : ∃ i, Tryz.prog.info? t = some i ∧ i.zero = some v ∧ i.size = n ∧ i.bytes = m := by
  cases hi : Tryz.prog.info? t with
  | none => rw [hi] at h; cases h
  | some i =>
    rw [hi] at h
    simp only [Option.map_some, Option.some.injEq, Prod.mk.injEq] at h
    exact ⟨i, rfl, h.1, h.2.1, h.2.2⟩
end Pat
end Go.Proofs.YtkhkcfbacnkcnaaGreatDoor
/- Which of two paths stands ahead, the program's and the document's; whether they are the same; whether names are few. -/
namespace Go.Proofs.YtkhkcfbacnkcnaaGreatDoor
open Go.RowKit Go.MapKept
namespace Pat

theorem below_drewN {B : Nat} {a w : World} (h : Below B a w) (n : Nat) : Below B a (w.drewN n) := ⟨h.os, h.tape, h.output, h.size, h.block⟩

/-- 0: the same; below: the first is ahead -/
def cmpT (a b : ByteArray) : Int := if a = b then 0 else if less a b then -1 else 1

set_option maxHeartbeats 2000000 in
theorem refBefore_any (w : World) (A B : Option Addr) (c d : Nat) (x y : List ByteArray) (hx : Txs w A x) (hy : Txs w B y) :
    Calls Tryz.prog 77 #[.slice A x.length c, .slice B y.length d] w fun e w' => e = .returned (.bool (bef x y)) ∧ ∃ n, w' = w.drewN n := by
  have hxl := hx.len
  have hyl := hy.len
  have HX := Lib.hid hx
  have HY := Lib.hid hy
  clear hx hy
  go_enter Tryz.func77, Tryz.ntmps77
  go_wp2
  go_loopw [8] (fun i wr => ∃ k : Nat, k ≤ x.length ∧ k ≤ y.length ∧ i = .int .i64 (k : Int) ∧ (∃ n, wr = w.drewN n) ∧ bef x y = bef (x.drop k) (y.drop k)) (fun i _ => x.length - (intOf i).toNat)
  case atStart => exact ⟨0, Nat.zero_le _, Nat.zero_le _, rfl, ⟨0, rfl⟩, rfl⟩
  case round =>
    obtain ⟨k, hk, hk', rfl, ⟨n, hw⟩, hc⟩ := hrel
    have HC := Lib.hid hc
    clear hc
    by_cases hlt : k < x.length
    · by_cases hlt' : k < y.length
      · obtain ⟨b, o, rfl, _, hc0⟩ := (show Txs wr A x by rw [hw]; exact HX.out.drewN n).at' k hlt
        obtain ⟨b', o', rfl, _, hd0⟩ := (show Txs wr B y by rw [hw]; exact HY.out.drewN n).at' k hlt'
        have HW := Lib.hid hw
        clear hw
        have hi0 : (0 : Int) ≤ (k : Int) := by omega
        have hi1 : (k : Int) < (x.length : Int) := by omega
        have hi2 : (k : Int) < (y.length : Int) := by omega
        by_cases e : x[k] = y[k]
        · have HS := Lib.hid (HC.out.trans (bef_same hlt hlt' e))
          generalize x[k] = s at *
          generalize y[k] = t at *
          subst e
          go_wp2_with fail
          go_quiet (fail)
          go_wp2
          refine ⟨⟨k + 1, by omega, by omega, by go_num, ?_, HS.out⟩, by simp [intOf]; omega⟩
          rw [HW.out]
          exact ⟨n + nq, by rw [World.drewN_drewN]⟩
        · have HZ := Lib.hid (show bef x y = Op.bytesLess x[k].toList y[k].toList from HC.out.trans (bef_diff hlt hlt' e))
          generalize x[k] = s at *
          generalize y[k] = t at *
          have h0 : ¬ s.toList = t.toList := fun h => e (toList_inj h)
          have h1 : (s.toList == t.toList) = false := by simpa using h0
          go_wp2_with fail
          go_quiet (fail)
          go_wp2_with fail
          go_quiet (fail)
          go_wp2
          go_ret
          refine ⟨by rw [HZ.out]; rfl, ?_⟩
          rw [HW.out]
          exact ⟨_, by rw [World.drewN_drewN, World.drewN_drewN]⟩
      · obtain rfl : k = y.length := by omega
        have HE := Lib.hid (HC.out.trans (bef_end (Nat.le_refl _)))
        have HW := Lib.hid hw
        clear hw
        go_wp2
        go_ret
        exact ⟨by rw [HE.out]; rfl, n, HW.out⟩
    · obtain rfl : k = x.length := by omega
      have HE := Lib.hid (HC.out.trans (bef_over hk'))
      have HW := Lib.hid hw
      clear hw
      have hd : decide ((x.length : Int) < (y.length : Int)) = decide (x.length < y.length) := by
        by_cases h : x.length < y.length
        · rw [decide_eq_true h, decide_eq_true (by omega)]
        · rw [decide_eq_false h, decide_eq_false (by omega)]
      have HDD := Lib.hid hd
      clear hd
      go_wp2
      go_ret
      exact ⟨by rw [HE.out, ← HDD.out]; rfl, n, HW.out⟩

set_option maxHeartbeats 2000000 in
theorem same_any (w : World) (A B : Option Addr) (c d : Nat) (x y : List ByteArray) (hx : Txs w A x) (hy : Txs w B y) :
    Calls Tryz.prog 12 #[.slice A x.length c, .slice B y.length d] w fun e w' => e = .returned (.bool (decide (x = y))) ∧ ∃ n, w' = w.drewN n := by
  have hxl := hx.len
  have hyl := hy.len
  have HX := Lib.hid hx
  have HY := Lib.hid hy
  clear hx hy
  by_cases hl : x.length = y.length
  · have hne : ((x.length : Int) == (y.length : Int)) = true := by rw [hl]; exact beq_self_eq_true _
    go_enter Tryz.func12, Tryz.ntmps12
    go_wp2
    go_loopw [13] (fun i wr => ∃ k : Nat, k ≤ x.length ∧ i = .int .i64 (k : Int) ∧ (∃ n, wr = w.drewN n) ∧ x.take k = y.take k) (fun i _ => x.length - (intOf i).toNat)
    case atStart => exact ⟨0, Nat.zero_le _, rfl, ⟨0, rfl⟩, rfl⟩
    case round =>
      obtain ⟨k, hk, rfl, ⟨n, hw⟩, hc⟩ := hrel
      have HC := Lib.hid hc
      clear hc
      by_cases hlt : k < x.length
      · have hlt' : k < y.length := by omega
        obtain ⟨b, o, rfl, _, hc0⟩ := (show Txs wr A x by rw [hw]; exact HX.out.drewN n).at' k hlt
        obtain ⟨b', o', rfl, _, hd0⟩ := (show Txs wr B y by rw [hw]; exact HY.out.drewN n).at' k hlt'
        have HW := Lib.hid hw
        clear hw
        have hi0 : (0 : Int) ≤ (k : Int) := by omega
        have hi1 : (k : Int) < (x.length : Int) := by omega
        have hi2 : (k : Int) < (y.length : Int) := by omega
        by_cases e : x[k] = y[k]
        · have HS := Lib.hid (take_same hlt hlt' e HC.out)
          generalize x[k] = s at *
          generalize y[k] = t at *
          subst e
          go_wp2_with fail
          go_quiet (fail)
          go_wp2
          refine ⟨⟨k + 1, by omega, by go_num, ?_, HS.out⟩, by simp [intOf]; omega⟩
          rw [HW.out]
          exact ⟨n + nq, by rw [World.drewN_drewN]⟩
        · have HZ := Lib.hid (show decide (x = y) = false from decide_eq_false (fun h => e (by subst h; rfl)))
          generalize x[k] = s at *
          generalize y[k] = t at *
          have h0 : ¬ s.toList = t.toList := fun h => e (toList_inj h)
          have h1 : (s.toList == t.toList) = false := by simpa using h0
          go_wp2_with fail
          go_quiet (fail)
          go_wp2
          go_ret
          refine ⟨by rw [HZ.out]; rfl, ?_⟩
          rw [HW.out]
          exact ⟨_, by rw [World.drewN_drewN]⟩
      · obtain rfl : k = x.length := by omega
        have HE := Lib.hid (show decide (x = y) = true from decide_eq_true (by
          have := HC.out
          rw [List.take_length, hl, List.take_length] at this
          exact this))
        have HW := Lib.hid hw
        clear hw
        go_wp2
        go_ret
        exact ⟨by rw [HE.out]; rfl, n, HW.out⟩
  · have hne : ((x.length : Int) == (y.length : Int)) = false := beq_eq_false_iff_ne.2 (by omega)
    have hne2 : ¬ (x.length : Int) = (y.length : Int) := by omega
    have HE := Lib.hid (show decide (x = y) = false from decide_eq_false (fun h => hl (by rw [h])))
    go_enter Tryz.func12, Tryz.ntmps12
    go_wp2
    go_ret
    exact ⟨by rw [HE.out]; rfl, 0, rfl⟩

/-- few, and short -/
def Few (l : List ByteArray) : Prop := (∀ s ∈ l, s.size ≤ 60) ∧ l.length ≤ 70
instance (l : List ByteArray) : Decidable (Few l) := by unfold Few; infer_instance
def few (l : List ByteArray) : Bool := decide (Few l)

end Pat
end Go.Proofs.YtkhkcfbacnkcnaaGreatDoor
/- May, the program's and the document's; an entry in a block. -/
namespace Go.Proofs.YtkhkcfbacnkcnaaGreatDoor
open Go.RowKit Go.MapKept
namespace Ent

/-- an entry lies in block b -/
structure Box (w : World) (b : Nat) (s : ByteArray) (i : Int) : Prop where
  lt : b < w.heap.size
  c0 : w.cell? ⟨b, 0, none⟩ = some (.string s)
  c1 : w.cell? ⟨b, 1, none⟩ = some (.int .i64 i)
theorem Box.keep {w w' : World} {b : Nat} {s : ByteArray} {i : Int} (h : Box w b s i) (hb : Below w.heap.size w w') : Box w' b s i :=
  ⟨Nat.lt_of_lt_of_le h.lt hb.size, (hb.cell (p := ⟨b, 0, none⟩) h.lt).trans h.c0, (hb.cell (p := ⟨b, 1, none⟩) h.lt).trans h.c1⟩
theorem Box.keepN {w w' : World} {b N : Nat} {s : ByteArray} {i : Int} (h : Box w b s i) (hb : Below N w w') (hN : b < N) : Box w' b s i :=
  ⟨Nat.lt_of_lt_of_le h.lt hb.size, (hb.cell (p := ⟨b, 0, none⟩) hN).trans h.c0, (hb.cell (p := ⟨b, 1, none⟩) hN).trans h.c1⟩
theorem Box.drew {w : World} {b : Nat} {s : ByteArray} {i : Int} (h : Box w b s i) : Box w.drew b s i := ⟨h.lt, h.c0, h.c1⟩
theorem boxed (w : World) (s : ByteArray) (i : Int) (t : TypeId) : Box (w.alloc (.cells #[.string s, .int .i64 i] t)) w.heap.size s i :=
  ⟨by simp, World.cell?_alloc_mark w _ t _ 0, World.cell?_alloc_mark w _ t _ 1⟩

/-- an entry of the call's own in block b -/
structure Own (w : World) (b : Nat) (s : ByteArray) (i : Int) : Prop where
  box : Box w b s i
  f : ∀ o, w.frozen? ⟨b, o, none⟩ = false
theorem Own.keep {w w' : World} {b : Nat} {s : ByteArray} {i : Int} (h : Own w b s i) (hb : Below w.heap.size w w') : Own w' b s i :=
  ⟨h.box.keep hb, fun o => (hb.frozen (p := ⟨b, o, none⟩) h.box.lt).trans (h.f o)⟩
theorem Own.drew {w : World} {b : Nat} {s : ByteArray} {i : Int} (h : Own w b s i) : Own w.drew b s i := ⟨h.box.drew, h.f⟩
theorem owned (w : World) (s : ByteArray) (i : Int) (t : TypeId) : Own (w.alloc (.cells #[.string s, .int .i64 i] t)) w.heap.size s i :=
  ⟨boxed w s i t, fun o => (World.rowIs_alloc w #[.string s, .int .i64 i] t (fun j => if j = 0 then .string s else .int .i64 i) (fun j hj => by
    have : j < 2 := hj
    match j, this with
    | 0, _ => rfl
    | 1, _ => rfl)).frozen o⟩

theorem ret_bool {a b : Bool} (h : a = true ↔ b = true) : Ending.returned (Value.bool a) = Ending.returned (Value.bool b) := by rw [Bool.eq_iff_iff.2 h]
theorem may_not {l : List Nat} {i : Int} (h : right l = false) : may l i = false := by
  unfold may
  rw [h]
  rfl
theorem may_right {l : List Nat} {i : Int} (h : right l = true) : may l i = decide (0 ≤ i ∧ i ≤ 65533) := by
  unfold may
  rw [h]
  rfl

set_option maxHeartbeats 1000000 in
theorem may_any (w : World) (s : ByteArray) (i : Int) (hs : s.size ≤ 9223372036854775807) :
    Calls Tryz.prog 99 #[.agg #[.string s, .int .i64 i]] w fun r w' => r = .returned (.bool (may (Crc.tx s) i)) ∧ Below w.heap.size w w' := by
  have HR := Lib.hid (fun w => right_any w s hs)
  cases hr : right (Crc.tx s) with
  | false =>
    have HM := Lib.hid (may_not (i := i) hr)
    have HT := Lib.hid hr
    clear hr
    go_enter Tryz.func99, Tryz.ntmps99
    go_wp2_with fail
    refine (HR.out _).mono ?_
    rintro e w' ⟨rfl, rfl⟩
    rw [HT.out]
    go_wp2
    go_ret
    exact ⟨by rw [HM.out]; rfl, (Below.refl _ _).alloc (Nat.le_refl _) _⟩
  | true =>
    have HM := Lib.hid (may_right (i := i) hr)
    have HT := Lib.hid hr
    clear hr
    go_enter Tryz.func99, Tryz.ntmps99
    go_wp2_with fail
    refine (HR.out _).mono ?_
    rintro e w' ⟨rfl, rfl⟩
    rw [HT.out]
    go_wp2
    all_goals go_ret
    all_goals refine ⟨?_, (Below.refl _ _).alloc (Nat.le_refl _) _⟩
    all_goals rw [HM.out]
    all_goals refine ret_bool ?_
    all_goals simp only [decide_eq_true_eq, Bool.false_eq_true, false_iff] at *
    all_goals omega

end Ent
end Go.Proofs.YtkhkcfbacnkcnaaGreatDoor
/- A row of 64 bytes of the call's own; the program's put. -/
namespace Go.Proofs.YtkhkcfbacnkcnaaGreatDoor
open Go.RowKit Go.MapKept
namespace Ent

/-- 64 bytes in block g -/
def Row (w : World) (g : Nat) (f : Nat → Nat) : Prop := w.rowIs g 5 64 (fun i => Value.int .u8 ((f i : Nat) : Int))
/-- a list by its places -/
def at' (l : List Nat) (i : Nat) : Nat := l[i]?.getD 0

theorem Row.lt {w : World} {g : Nat} {f : Nat → Nat} (h : Row w g f) : g < w.heap.size := World.rowIs.lt h
theorem Row.keep {w w' : World} {g : Nat} {f : Nat → Nat} (h : Row w g f) (hb : Below w.heap.size w w') : Row w' g f := World.rowIs.of_block h (hb.block _ h.lt)
theorem Row.keepN {w w' : World} {g N : Nat} {f : Nat → Nat} (h : Row w g f) (hb : Below N w w') (hN : g < N) : Row w' g f := World.rowIs.of_block h (hb.block _ hN)
theorem Row.drew {w : World} {g : Nat} {f : Nat → Nat} (h : Row w g f) : Row w.drew g f := h
theorem Row.alloc {w : World} {g : Nat} {f : Nat → Nat} (h : Row w g f) (o : Obj) : Row (w.alloc o) g f := World.rowIs.alloc h o
theorem Row.cell {w : World} {g : Nat} {f : Nat → Nat} (h : Row w g f) {i : Nat} (hi : i < 64) : w.cell? ⟨g, i, none⟩ = some (.int .u8 ((f i : Nat) : Int)) := World.rowIs.cell h hi
theorem Row.frozen {w : World} {g : Nat} {f : Nat → Nat} (h : Row w g f) (i : Nat) : w.frozen? ⟨g, i, none⟩ = false := World.rowIs.frozen h i
theorem Row.congr {w : World} {g : Nat} {f f' : Nat → Nat} (h : Row w g f) (e : ∀ i, i < 64 → f i = f' i) : Row w g f' := World.rowIs.congr h (fun i hi => by rw [e i hi])
theorem Row.set {w : World} {g : Nat} {f : Nat → Nat} (h : Row w g f) (j x : Nat) : Row (w.setCell ⟨g, j, none⟩ (.int .u8 (x : Int))) g (fun i => if i = j then x else f i) :=
  World.rowIs.congr (World.rowIs.set h j (.int .u8 (x : Int))) (fun i _ => by by_cases e : i = j <;> simp [e])
theorem Row.bts {w : World} {g : Nat} {f : Nat → Nat} (h : Row w g f) (o : Nat) (l : List Nat) (hl : Crc.Byt l) (ho : o + l.length ≤ 64) (e : ∀ j (hj : j < l.length), f (o + j) = l[j]) : Crc.Bts w (some ⟨g, o, none⟩) l :=
  ⟨hl, by omega, fun j hj => ⟨g, o, rfl, h.lt, by rw [h.cell (by omega), e j hj]⟩⟩

/-- a number's bytes laid from place o on -/
def putf (f : Nat → Nat) (o x n : Nat) (i : Nat) : Nat := if o ≤ i ∧ i < o + n then x / 256 ^ (i - o) % 256 else f i
theorem putf_zero (f : Nat → Nat) (o x : Nat) : putf f o x 0 = f := by
  funext i
  unfold putf
  rw [if_neg (by omega)]
theorem putf_next (f : Nat → Nat) (o x n : Nat) (i : Nat) : (if i = o + n then x / 256 ^ n % 256 else putf f o x n i) = putf f o x (n + 1) i := by
  unfold putf
  by_cases h : i = o + n
  · subst h
    rw [if_pos rfl, if_pos (by omega)]
    congr 3
    omega
  · rw [if_neg h]
    by_cases h1 : o ≤ i ∧ i < o + n
    · rw [if_pos h1, if_pos (by omega)]
    · rw [if_neg h1, if_neg (by omega)]

set_option maxHeartbeats 1000000 in
theorem put_any (w : World) (g o n c x : Nat) (f : Nat → Nat) (h : Row w g f) (ho : o + n ≤ 64) (hx : x < 4294967296) (hn : n ≤ 4) :
    Calls Tryz.prog 100 #[.slice (some ⟨g, o, none⟩) n c, .int .u32 (x : Int)] w fun r w' => r = .returned (.tuple #[]) ∧ Row w' g (putf f o x n) ∧ Below g w w' := by
  have H := Lib.hid h
  clear h
  go_enter Tryz.func100, Tryz.ntmps100
  go_wp2
  go_loopw [7] (fun i wr => ∃ m : Nat, m ≤ n ∧ i = .int .i64 (m : Int) ∧ Row wr g (putf f o x m) ∧ Below g w wr) (fun i _ => n - (intOf i).toNat)
  case atStart => exact ⟨0, Nat.zero_le _, rfl, by rw [putf_zero]; exact H.out, Below.refl _ _⟩
  case round =>
    obtain ⟨m, hm, rfl, hr, hb⟩ := hrel
    have HR := Lib.hid hr
    have HB := Lib.hid hb
    clear hr hb
    by_cases hlt : m < n
    · have hc := HR.out.cell (i := o + m) (by omega)
      have hf := HR.out.frozen (o + m)
      have hsh : (x : Int) / 2 ^ (m * 8) = ((x / 256 ^ m : Nat) : Int) := by
        have : 256 ^ m = 2 ^ (m * 8) := by rw [Nat.mul_comm m 8, Nat.pow_mul]
        rw [this]
        simp
      have hyl : x / 256 ^ m < 4294967296 := Nat.lt_of_le_of_lt (Nat.div_le_self _ _) hx
      have HN := Lib.hid ((HR.out.set (o + m) (x / 256 ^ m % 256)).congr (fun i _ => putf_next f o x m i))
      have HBN := Lib.hid (HB.out.setCell (p := ⟨g, o + m, none⟩) (Nat.le_refl _) (.int .u8 ((x / 256 ^ m % 256 : Nat) : Int)))
      generalize x / 256 ^ m = y at *
      go_wp2
      exact ⟨⟨m + 1, by omega, by go_num, HN.out, HBN.out⟩, by simp [intOf]; omega⟩
    · obtain rfl : m = n := by omega
      go_wp2
      go_end0
      exact ⟨rfl, HR.out, HB.out⟩
end Ent
end Go.Proofs.YtkhkcfbacnkcnaaGreatDoor
/- Encode, walked. -/
namespace Go.Proofs.YtkhkcfbacnkcnaaGreatDoor
open Go.RowKit Go.MapKept
namespace Ent

theorem get_new {w : World} {o : Obj} {k : Nat} (h : k = w.heap.size) : (w.alloc o).heap[k]? = some o := by
  subst h
  show (w.heap.push o)[w.heap.size]? = _
  simp
theorem get_old {w : World} {o x : Obj} {k : Nat} (h : w.heap[k]? = some x) : (w.alloc o).heap[k]? = some x := (Below.heap_alloc w o k (Array.getElem?_eq_some_iff.1 h).1).trans h
theorem get_drew {w : World} {x : Obj} {k : Nat} (h : w.heap[k]? = some x) : w.drew.heap[k]? = some x := h
theorem pts_at1 {W : World} {k n0 c0 : Nat} {t : TypeId} {A0 : Option Addr} {l0 : List Nat} (hk : W.heap[k]? = some (.cells #[.slice A0 n0 c0] t)) (h0 : Crc.Bts W A0 l0) (e0 : n0 = l0.length) : Crc.Pts W (some ⟨k, 0, none⟩) [⟨A0, c0, l0⟩] := by
  subst e0
  exact ⟨by simp, fun i hi => ⟨k, 0, rfl, (Array.getElem?_eq_some_iff.1 hk).1, by
    obtain rfl : i = 0 := by simpa using hi
    unfold World.cell?
    rw [hk]
    rfl⟩, fun i hi => by
    obtain rfl : i = 0 := by simpa using hi
    exact h0⟩
theorem sum32_at1 {W : World} {k n0 c0 cc : Nat} {t : TypeId} {A0 : Option Addr} {l : List Nat} (hk : W.heap[k]? = some (.cells #[.slice A0 n0 c0] t)) (h0 : Crc.Bts W A0 l) (e0 : n0 = l.length) :
    Calls Tryz.prog 101 #[.slice (some ⟨k, 0, none⟩) 1 cc] W fun e w' => e = .returned (.int .u32 (Crc.S32 l : Nat)) ∧ W = w' := by
  have := Crc.sum32_any _ cc _ (pts_at1 hk h0 e0)
  rw [Crc.flat_one] at this
  exact this

theorem below_alloc {w W : World} {o : Obj} (h : Below w.heap.size w W) : Below w.heap.size w (W.alloc o) := h.alloc h.size o

theorem encode_no (w : World) (s : ByteArray) (i : Int) (hs : s.size ≤ 9223372036854775807) (hm : may (Crc.tx s) i = false) :
    Calls Tryz.prog 88 #[.agg #[.string s, .int .i64 i]] w fun r w' => r = .returned (.tuple #[.slice none 0 0, .int .i64 1]) ∧ Below w.heap.size w w' := by
  have HM := Lib.hid (fun w => may_any w s i hs)
  have HE := Lib.hid hm
  clear hm
  have HB := Lib.hid ((Below.refl w.heap.size w).alloc (Nat.le_refl _) (.cells #[.string s, .int .i64 i] 137))
  go_enter Tryz.func88, Tryz.ntmps88
  go_wp2_with fail
  refine (HM.out _).mono ?_
  rintro e w' ⟨rfl, hb⟩
  rw [HE.out]
  have HB1 := Lib.hid (HB.out.trans (hb.mono HB.out.size))
  clear hb
  go_wp2
  go_ret2
  exact ⟨rfl, HB1.out⟩

/-- the bytes as they are laid, one after the other -/
def f1 (k : Nat) : Nat → Nat := putf (fun _ => 0) 0 k 2
def f2 (k n : Nat) (i : Nat) : Nat := if i = 2 then n else f1 k i
def f3 (l : List Nat) (k : Nat) (i : Nat) : Nat := if 4 ≤ i ∧ i < 4 + l.length then at' l (i - 4) else f2 k l.length i

theorem f3_front {l : List Nat} {k : Nat} (i : Nat) (hi : i < 60) : f3 l k i = at' (front l k) i := by
  unfold f3 f2 f1 putf at' front
  match i, hi with
  | 0, _ => simp
  | 1, _ => simp
  | 2, _ => simp
  | 3, _ => simp
  | i + 4, hi =>
    simp only [List.cons_append, List.nil_append, List.getElem?_cons_succ]
    by_cases h : i < l.length
    · rw [if_pos (by omega), List.getElem?_append_left h, show i + 4 - 4 = i by omega]
    · rw [if_neg (by omega), if_neg (by omega), if_neg (by omega), List.getElem?_append_right (by omega)]
      rw [List.getElem?_replicate]
      split <;> rfl
theorem f4_enc {l : List Nat} {k : Nat} (hl : l.length ≤ 48) (i : Nat) (hi : i < 64) : putf (f3 l k) 60 (Crc.S32 (front l k)) 4 i = at' (enc l k) i := by
  have hfl := front_len hl k
  unfold enc at'
  by_cases h : i < 60
  · rw [List.getElem?_append_left (by omega)]
    unfold putf
    rw [if_neg (by omega)]
    exact f3_front i h
  · rw [List.getElem?_append_right (by omega), hfl]
    generalize Crc.S32 (front l k) = x
    unfold putf q4
    have : i = 60 ∨ i = 61 ∨ i = 62 ∨ i = 63 := by omega
    rcases this with rfl | rfl | rfl | rfl <;> simp
theorem copy_f3 {s : ByteArray} {k : Nat} (j : Nat) : (if 4 ≤ j ∧ j < 4 + (s.data.toList.map fun x : UInt8 => Value.int .u8 (x.toNat : Int)).length then (s.data.toList.map fun x : UInt8 => Value.int .u8 (x.toNat : Int))[j - 4]?.getD default else Value.int .u8 ((f2 k (Crc.tx s).length j : Nat) : Int)) = Value.int .u8 ((f3 (Crc.tx s) k j : Nat) : Int) := by
  have e : (s.data.toList.map fun x : UInt8 => Value.int .u8 (x.toNat : Int)) = (Crc.tx s).map fun b : Nat => Value.int .u8 (b : Int) := by
    unfold Crc.tx
    rw [List.map_map]
    rfl
  rw [e, List.length_map]
  unfold f3
  by_cases h : 4 ≤ j ∧ j < 4 + (Crc.tx s).length
  · rw [if_pos h, if_pos h, List.getElem?_map]
    unfold at'
    rw [List.getElem?_eq_getElem (show j - 4 < (Crc.tx s).length by omega)]
    rfl
  · rw [if_neg h, if_neg h]

theorem size_u8 (W : World) : (Go.sizeOf 5).run Tryz.prog W = .ok 1 W := by kernel_rfl

set_option maxHeartbeats 4000000 in
set_option maxRecDepth 100000 in
theorem encode_yes (w : World) (s : ByteArray) (k : Nat) (hm : may (Crc.tx s) (k : Int) = true) :
    Calls Tryz.prog 88 #[.agg #[.string s, .int .i64 (k : Int)]] w fun r w' => ∃ g : Nat, w.heap.size ≤ g ∧ r = .returned (.tuple #[.slice (some ⟨g, 0, none⟩) 64 64, .int .i64 0]) ∧ Row w' g (at' (enc (Crc.tx s) k)) ∧ Below w.heap.size w w' := by
  have hl := may_len hm
  obtain ⟨k', ek, hk⟩ := may_nat hm
  obtain rfl : k = k' := by omega
  have hsz : s.size ≤ 48 := by rw [Crc.tx_len] at hl; exact hl
  have hfb := front_byt (Crc.tx_byt s) hl k
  have hfl := front_len hl k
  have HFB := Lib.hid hfb
  have HFL := Lib.hid hfl.symm
  have HL := Lib.hid hl
  have HM := Lib.hid (fun w => may_any w s (k : Int) (by omega))
  have HE := Lib.hid hm
  clear hm hl hfb hfl ek
  have HB := Lib.hid ((Below.refl w.heap.size w).alloc (Nat.le_refl _) (.cells #[.string s, .int .i64 (k : Int)] 137))
  have HX := Lib.hid (boxed w s k 137)
  go_enter Tryz.func88, Tryz.ntmps88
  go_wp2_with fail
  refine (HM.out _).mono ?_
  rintro e w1 ⟨rfl, hb⟩
  rw [HE.out]
  have HB1 := Lib.hid (HB.out.trans (hb.mono HB.out.size))
  have HX1 := Lib.hid (HX.out.keep hb)
  have hz1 : w.heap.size < w1.heap.size := HX1.out.lt
  clear hb HX HB
  have hmk := run_make_row' (P := Tryz.prog) 30 5 _ 1 Tryz.underlying30 Crc.u8_info rfl .i64 .i64 64 (by omega) (by omega) w1
  rw [show ((64 : Nat) : Int) = 64 from rfl] at hmk
  have hb2 := (Below.refl w1.heap.size w1).alloc (Nat.le_refl _) (.cells (madeCells #[.int .u8 0] 64) 5)
  have HR2 := Lib.hid (show Row (w1.alloc (.cells (madeCells #[.int .u8 0] 64) 5)) w1.heap.size (fun _ => 0) from World.rowIs_made w1 (.int .u8 0) 64 5)
  have HX2 := Lib.hid (HX1.out.keep hb2)
  have HB2 := Lib.hid (HB1.out.trans (hb2.mono HB1.out.size))
  clear hb2 HX1 HB1
  go_wp2
  generalize w1.alloc (.cells (madeCells #[.int .u8 0] 64) 5) = w2 at *
  generalize w1.heap.size = g at *
  clear hmk
  have hc1 := HX2.out.c1
  have hz2 : w.heap.size < w2.heap.size := HX2.out.lt
  have hkw : IntKind.wrap .u32 (k : Int) = (k : Int) := by rw [IntKind.wrap_u32']; omega
  go_region_held3 (fun W' => W'.cell? ⟨w.heap.size, 1, none⟩ = some (.int .i64 (k : Int))) (go_keep)
    (first
    | (go_at_call 100
       with_reducible refine (put_any _ g 0 2 64 k _ HR2.out.drew (by omega) (by omega) (by omega)).mono ?_
       rintro e w3 ⟨rfl, hr, hb⟩
       have HR3 := Lib.hid hr
       have HB3 := Lib.hid (HB2.out.drew.trans (hb.mono (Nat.le_of_lt hz1)))
       have HX3 := Lib.hid (HX2.out.drew.keepN hb hz1)
       have hk1 := HX3.out.c1
       clear hb hr))
  clear hkw hc1 hk1 HR2 HX2 HB2 hz2
  have hc0 := HX3.out.c0
  have hr2 := HR3.out.cell (i := 2) (by omega)
  have hf2 := HR3.out.frozen 2
  have hsm : (s.size : Int) % 256 = (s.size : Int) := by omega
  have HR4 := Lib.hid (show Row (w3.setCell ⟨g, 2, none⟩ (.int .u8 (s.size : Int))) g (f2 k (Crc.tx s).length) from (HR3.out.set 2 s.size).congr (fun i _ => by unfold f2 f1; rw [Crc.tx_len]))
  have HB4 := Lib.hid (HB3.out.setCell (p := ⟨g, 2, none⟩) (Nat.le_of_lt hz1) (.int .u8 (s.size : Int)))
  have hb4 := (Below.refl g w3).setCell (p := ⟨g, 2, none⟩) (Nat.le_refl _) (.int .u8 (s.size : Int))
  have HX4 := Lib.hid (HX3.out.keepN hb4 hz1)
  clear hb4 HR3 HB3
  go_wp2
  generalize w3.setCell ⟨g, 2, none⟩ (.int .u8 (s.size : Int)) = w4 at *
  clear hc0 hr2 hf2 hsm HX3
  have hc0 := HX4.out.c0
  have hcp := run_copy_string (P := Tryz.prog) w4.drew 30 9 3 5 g 4 60 60 s Tryz.underlying30 size_u8 (by omega) (fun j hj => by rw [HR4.out.drew.cell (by omega)]; rfl) (fun j hj => HR4.out.drew.frozen _)
  have HR5 := Lib.hid (show Row (w4.drew.setCells g 4 (s.data.toList.map fun x : UInt8 => Value.int .u8 (x.toNat : Int))) g (f3 (Crc.tx s) k) from (rowIs_setCells (s.data.toList.map fun x : UInt8 => Value.int .u8 (x.toNat : Int)) 4 w4.drew _ HR4.out.drew).congr (fun j _ => copy_f3 j))
  have HB5 := Lib.hid (below_setCells (b := g) (Nat.le_of_lt hz1) (s.data.toList.map fun x : UInt8 => Value.int .u8 (x.toNat : Int)) 4 _ HB4.out.drew)
  generalize w4.drew.setCells g 4 (s.data.toList.map fun x : UInt8 => Value.int .u8 (x.toNat : Int)) = w5 at *
  go_region
  go_wp2
  clear hcp hc0 HR4 HB4 HX4
  have HBT := Lib.hid (fun (W : World) (h : Row W g (f3 (Crc.tx s) k)) => h.bts 0 (front (Crc.tx s) k) HFB.out (by rw [← HFL.out]; omega) (fun j hj => by
    rw [Nat.zero_add, f3_front j (by rw [← HFL.out] at hj; exact hj)]
    unfold at'
    rw [List.getElem?_eq_getElem hj]
    rfl))
  have HS := Lib.hid (s32_lt (front (Crc.tx s) k))
  go_region_held3 (fun _ => True) (exact trivial) (first
    | (go_at_call 101
       with_reducible refine (sum32_at1 (l := front (Crc.tx s) k) (t := 30) (A0 := some ⟨g, 0, none⟩) (n0 := 60) (c0 := 64) ?_ ?_ HFL.out).mono ?_
       · repeat (first | (with_reducible refine get_new ?_; simp; done) | with_reducible refine get_drew ?_ | with_reducible refine get_old ?_)
       · refine HBT.out _ ?_
         repeat (first | with_reducible exact HR5.out | with_reducible refine Row.drew ?_ | with_reducible refine Row.alloc ?_ _)
       rintro e w' ⟨rfl, rfl⟩)
    | (go_at_call 100
       with_reducible refine (put_any _ g 60 4 4 (Crc.S32 (front (Crc.tx s) k)) (f3 (Crc.tx s) k) ?_ (by omega) HS.out (by omega)).mono ?_
       · repeat (first | with_reducible exact HR5.out | with_reducible refine Row.drew ?_ | with_reducible refine Row.alloc ?_ _)
       rintro e w6 ⟨rfl, hr, hb⟩
       have HR6 := Lib.hid hr
       have HB6 := Lib.hid hb
       clear hb hr))
  go_wp2
  go_ret2
  refine ⟨g, Nat.le_of_lt hz1, rfl, HR6.out.congr (fun i hi => f4_enc HL.out i hi), ?_⟩
  refine Below.trans ?_ (HB6.out.mono (Nat.le_of_lt hz1))
  repeat (first | with_reducible exact HB5.out | with_reducible refine Below.drew ?_ | with_reducible refine below_alloc ?_)
end Ent
end Go.Proofs.YtkhkcfbacnkcnaaGreatDoor
/- Decode, walked. -/
namespace Go.Proofs.YtkhkcfbacnkcnaaGreatDoor
open Go.RowKit Go.MapKept
namespace Ent

/-- an entry, zero if there is none -/
def gv : Option (List Nat × Nat) → Value
  | some (l, k) => .agg #[.string (Crc.str l), .int .i64 (k : Int)]
  | none => .agg #[.string ⟨#[]⟩, .int .i64 0]
/-- the error -/
def ev : Option (List Nat × Nat) → Int
  | some _ => 0
  | none => 2

theorem dec_len {l : List Nat} (h : l.length ≠ 64) : dec l = none := by
  unfold dec
  exact if_neg (fun e => h e.1)
theorem dec_name {l : List Nat} (h : ¬ l[2]?.getD 0 ≤ 48) : dec l = none := by
  unfold dec
  exact if_neg (fun e => h e.2.1)

/-- 64 bytes lie there, of at least so much room -/
structure At64 (w : World) (b o : Nat) (l : List Nat) : Prop where
  bts : Crc.Bts w (some ⟨b, o, none⟩) l
  len : l.length = 64
  lt : b < w.heap.size
theorem At64.cell {w : World} {b o : Nat} {l : List Nat} (h : At64 w b o l) (j : Nat) (hj : j < 64) : w.cell? ⟨b, o + j, none⟩ = some (.int .u8 ((at' l j : Nat) : Int)) := by
  have hl := h.len
  obtain ⟨b', o', e, _, hc⟩ := h.bts.at' j (by omega)
  injection e with e
  injection e with e1 e2
  subst e1 e2
  rw [hc]
  unfold at'
  rw [List.getElem?_eq_getElem (by omega)]
  rfl
theorem At64.keep {w w' : World} {b o : Nat} {l : List Nat} (h : At64 w b o l) (hb : Below w.heap.size w w') : At64 w' b o l := ⟨h.bts.keep hb, h.len, Nat.lt_of_lt_of_le h.lt hb.size⟩
theorem At64.byte {w : World} {b o : Nat} {l : List Nat} (h : At64 w b o l) (j : Nat) : at' l j < 256 := by
  unfold at'
  rcases Nat.lt_or_ge j l.length with h1 | h1
  · rw [List.getElem?_eq_getElem h1]
    exact h.bts.byt _ (List.getElem_mem _)
  · rw [List.getElem?_eq_none h1]
    decide
theorem at64 {w : World} {A : Option Addr} {l : List Nat} (h : Crc.Bts w A l) (hl : l.length = 64) : ∃ b o, A = some ⟨b, o, none⟩ ∧ At64 w b o l := by
  obtain ⟨b, o, rfl, hlt, _⟩ := h.at' 0 (by omega)
  exact ⟨b, o, rfl, h, hl, hlt⟩
theorem At64.name {w : World} {b o : Nat} {l : List Nat} (h : At64 w b o l) : Crc.Bts w (some ⟨b, o + 4, none⟩) (name l) := by
  have hl := h.len
  refine ⟨fun x hx => h.bts.byt x (List.mem_of_mem_drop (List.mem_of_mem_take hx)), ?_, fun j hj => ⟨b, o + 4, rfl, h.lt, ?_⟩⟩
  · unfold Ent.name
    rw [List.length_take, List.length_drop]
    omega
  · have hj' := hj
    unfold Ent.name at hj'
    rw [List.length_take, List.length_drop] at hj'
    have := h.cell (4 + j) (by omega)
    rw [← Nat.add_assoc] at this
    have e : (Ent.name l)[j] = l[4 + j]'(by omega) := by simp only [Ent.name, List.getElem_take, List.getElem_drop]
    rw [this, e]
    unfold at'
    rw [List.getElem?_eq_getElem (by omega)]
    rfl
theorem name_len {l : List Nat} (hl : l.length = 64) (h : at' l 2 ≤ 48) : (name l).length = at' l 2 := by
  unfold name
  rw [List.length_take, List.length_drop]
  unfold at' at h ⊢
  omega

theorem i64_or_nat (a b : Nat) (ha : a < 256) (hb : b < 256) : bits .or .i64 (a : Int) ((b : Int) * 256) = ((a + 256 * b : Nat) : Int) := by
  have hx : a ||| b * 256 = a + 256 * b := by
    have := Nat.shiftLeft_add_eq_or_of_lt (b := a) (i := 8) (show a < 2 ^ 8 from ha) b
    rw [Nat.shiftLeft_eq, show (2 : Nat) ^ 8 = 256 from rfl] at this
    rw [Nat.or_comm]
    omega
  show IntKind.i64.wrap ((BitVec.ofInt 64 (a : Int) ||| BitVec.ofInt 64 ((b : Int) * 256)).toNat : Int) = _
  have e : (b : Int) * 256 = ((b * 256 : Nat) : Int) := by omega
  rw [e, BitVec.toNat_or, ofInt_u64 a (by omega), ofInt_u64 (b * 256) (by omega), hx, IntKind.wrap_i64]
  omega

theorem str_beq {l m : List Nat} (hl : Crc.Byt l) (hm : Crc.Byt m) : ((Crc.str l).toList == (Crc.str m).toList) = decide (l = m) := by
  by_cases h : l = m
  · subst h
    simp
  · rw [decide_eq_false h]
    refine beq_false_of_ne (fun e => h ?_)
    have h1 := Crc.tx_str hl
    have h2 := Crc.tx_str hm
    rw [tx_toList] at h1 h2
    rw [← h1, ← h2, e]

theorem equal_any (w : World) (A B : Option Addr) (c d n m : Nat) (l k : List Nat) (hl : Crc.Bts w A l) (hk : Crc.Bts w B k) (en : n = l.length) (em : m = k.length) :
    Calls Tryz.prog 60 #[.slice A n c, .slice B m d] w fun r w' => r = .returned (.bool (decide (l = k))) ∧ w = w' := by
  have h1 := Crc.conv_str c hl
  have h2 := Crc.conv_str d hk
  rw [← en] at h1
  rw [← em] at h2
  have HE := Lib.hid (str_beq hl.byt hk.byt)
  clear hl hk en em
  generalize Crc.str l = S at *
  generalize Crc.str k = T at *
  go_enter Tryz.func60, Tryz.ntmps60
  go_wp2
  go_ret
  exact ⟨by rw [← HE.out]; rfl, rfl⟩

theorem row_enc {W : World} {g : Nat} {l : List Nat} (h : Row W g (at' l)) (hl : l.length = 64) (hb : Crc.Byt l) : Crc.Bts W (some ⟨g, 0, none⟩) l :=
  h.bts 0 l hb (by omega) (fun j hj => by
    rw [Nat.zero_add]
    unfold at'
    rw [List.getElem?_eq_getElem hj]
    rfl)

end Ent
end Go.Proofs.YtkhkcfbacnkcnaaGreatDoor
