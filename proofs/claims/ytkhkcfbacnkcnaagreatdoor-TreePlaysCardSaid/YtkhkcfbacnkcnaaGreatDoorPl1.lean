/- Texts laid together: CrcMath, CrcRev, CrcStep, CrcSum, CrcLives, CrcRef, CrcWords, CrcText, CrcTurn, EntMath, EntRight, PatMath, TreMath, PatCut, PatMem, PatOrd, PatLay, PatSplit. -/
import Derived.KernelRfl
import Derived.Test.YtkhkcfbacnkcnaaGreatDoorRows
import Derived.WalkKit
import Derived.ProofKit
import Derived.Maps.AppendAt
import Derived.MapKept
import Derived.Lib.Hide
import Derived.Laws.BitsAllLaws
import Derived.Laws.IdiomStrings
import Derived.Laws.BytesArg
import Derived.OwnWalk
import Derived.Laws.Strings
import Derived.Lib.SplitLaws
import Derived.Lib.IndexBytes
import Derived.Lib.Join
import Derived.Deep.OwnRows
import Derived.Laws.OwnMore
import Derived.OneCell
import Derived.ArgAppend
import Derived.Laws.MakeOwn
import Derived.Laws.Cover1
import Derived.Deep.QuietTactic
import Derived.BigQuiet
import Derived.RegionTactic
import Derived.ChangeAlike
import Derived.Shelf.Strings.Split
import Derived.Shelf.Strings.OnBuilder
import Derived.Ground.NamesProg
import Derived.Test.YtkhkcfbacnkcnaaGreatDoorProg
/- Sums that take bits from the lowest on, as numbers: what a row of bytes sums to, and that neighbouring bits which are turned are told. -/
namespace Go.Proofs.YtkhkcfbacnkcnaaGreatDoor
namespace Crc

/-- one step of the sum: the lowest bit falls off -/
def A (p x : Nat) : Nat := x / 2 ^^^ (if x % 2 = 1 then p else 0)

/-- so many steps -/
def it (p : Nat) : Nat → Nat → Nat
  | 0, x => x
  | k + 1, x => it p k (A p x)

theorem half_xor (x y : Nat) : (x ^^^ y) / 2 = x / 2 ^^^ y / 2 := by
  apply Nat.eq_of_testBit_eq
  intro i
  rw [Nat.testBit_div_two, Nat.testBit_xor, Nat.testBit_xor, Nat.testBit_div_two, Nat.testBit_div_two]

theorem odd_xor (x y : Nat) : (x ^^^ y) % 2 = (x % 2 + y % 2) % 2 := by
  have h : (x ^^^ y).testBit 0 = (x.testBit 0 ^^ y.testBit 0) := Nat.testBit_xor ..
  simp only [Nat.testBit_zero] at h
  rcases Nat.mod_two_eq_zero_or_one x with hx | hx <;> rcases Nat.mod_two_eq_zero_or_one y with hy | hy <;> rcases Nat.mod_two_eq_zero_or_one (x ^^^ y) with hz | hz <;> simp [hx, hy, hz] at h ⊢

theorem A_xor (p x y : Nat) : A p (x ^^^ y) = A p x ^^^ A p y := by
  unfold A
  rw [half_xor, odd_xor]
  generalize x / 2 = a
  generalize y / 2 = b
  apply Nat.eq_of_testBit_eq
  intro i
  rcases Nat.mod_two_eq_zero_or_one x with hx | hx <;> rcases Nat.mod_two_eq_zero_or_one y with hy | hy <;> simp [hx, hy, Nat.testBit_xor] <;> cases a.testBit i <;> cases b.testBit i <;> cases p.testBit i <;> rfl

theorem A_double (p x : Nat) : A p (x * 2) = x := by
  unfold A
  simp

theorem A_zero (p : Nat) : A p 0 = 0 := by simp [A]

theorem it_xor (p k : Nat) : ∀ x y, it p k (x ^^^ y) = it p k x ^^^ it p k y := by
  induction k with
  | zero => exact fun _ _ => rfl
  | succ k ih => exact fun x y => by simp only [it]; rw [A_xor, ih]

theorem it_zero (p k : Nat) : it p k 0 = 0 := by
  induction k with
  | zero => rfl
  | succ k ih => simp only [it]; rw [A_zero, ih]

theorem it_add (p a b : Nat) : ∀ x, it p (a + b) x = it p b (it p a x) := by
  induction a with
  | zero => intro x; rw [Nat.zero_add]; rfl
  | succ a ih => intro x; rw [Nat.succ_add]; simp only [it]; exact ih _

theorem it_last (p k x : Nat) : it p (k + 1) x = A p (it p k x) := by rw [it_add]; rfl

theorem it_shift (p k : Nat) : ∀ x, it p k (x * 2 ^ k) = x := by
  induction k with
  | zero => intro x; simp [it]
  | succ k ih =>
    intro x
    simp only [it]
    rw [Nat.pow_succ, ← Nat.mul_assoc, A_double, ih]

theorem A_lt {p x w : Nat} (hp : p < 2 ^ w) (hx : x < 2 ^ w) : A p x < 2 ^ w := by
  unfold A
  refine Nat.xor_lt_two_pow (by omega) ?_
  split <;> omega

theorem A_ne {p x w : Nat} (hp : p.testBit w = true) (hx : x < 2 ^ (w + 1)) (h0 : x ≠ 0) : A p x ≠ 0 := by
  unfold A
  intro h
  split at h
  · have h1 : (x / 2 ^^^ p).testBit w = false := by rw [h]; simp
    rw [Nat.testBit_xor, hp, Nat.testBit_lt_two_pow (by rw [Nat.pow_succ] at hx; omega)] at h1
    simp at h1
  · simp at h
    omega

theorem it_lt {p w : Nat} (hp : p < 2 ^ w) (k : Nat) : ∀ x, x < 2 ^ w → it p k x < 2 ^ w := by
  induction k with
  | zero => exact fun _ h => h
  | succ k ih => exact fun x h => ih _ (A_lt hp h)

theorem it_ne {p w : Nat} (hp : p < 2 ^ (w + 1)) (ht : p.testBit w = true) (k : Nat) : ∀ x, x < 2 ^ (w + 1) → x ≠ 0 → it p k x ≠ 0 := by
  induction k with
  | zero => exact fun _ _ h => h
  | succ k ih => exact fun x h h0 => ih _ (A_lt hp h) (A_ne ht h h0)

/-- the sum with one byte more -/
def nx (p r b : Nat) : Nat := it p 8 (r ^^^ b)

/-- the sum of bytes behind what was summed -/
def sm (p r : Nat) (l : List Nat) : Nat := l.foldl (nx p) r

/-- bytes as one number, the lowest first -/
def le : List Nat → Nat
  | [] => 0
  | b :: l => b + 256 * le l

/-- all are bytes -/
def Byt (l : List Nat) : Prop := ∀ b ∈ l, b < 256

theorem Byt.cons {b : Nat} {l : List Nat} (h : Byt (b :: l)) : b < 256 ∧ Byt l := ⟨h b (List.mem_cons_self ..), fun c hc => h c (List.mem_cons_of_mem _ hc)⟩

theorem bit_cons {b : Nat} (hb : b < 256) (x i : Nat) : (b + 256 * x).testBit i = if i < 8 then b.testBit i else x.testBit (i - 8) := by
  rw [Nat.add_comm]
  exact Nat.testBit_two_pow_mul_add x (i := 8) (by omega) i

theorem cons_xor {b : Nat} (hb : b < 256) (x : Nat) : b + 256 * x = b ^^^ x * 2 ^ 8 := by
  apply Nat.eq_of_testBit_eq
  intro i
  rw [bit_cons hb, Nat.testBit_xor, Nat.testBit_mul_two_pow]
  by_cases h : i < 8
  · simp [h, Nat.not_le.2 h]
  · have h8 : b.testBit i = false := Nat.testBit_lt_two_pow (Nat.lt_of_lt_of_le hb (Nat.pow_le_pow_right (n := 2) (by omega) (by omega : 8 ≤ i)))
    simp [h, h8, Nat.not_lt.1 h]

theorem sm_eq (p : Nat) (l : List Nat) : ∀ r, Byt l → sm p r l = it p (8 * l.length) (r ^^^ le l) := by
  induction l with
  | nil => intro r _; simp [sm, le, it]
  | cons b l ih =>
    intro r h
    have hb := h.cons
    have e : sm p r (b :: l) = sm p (nx p r b) l := rfl
    rw [e, ih _ hb.2]
    have e2 : 8 * (b :: l).length = 8 + 8 * l.length := by rw [List.length_cons]; omega
    rw [e2, it_add]
    congr 1
    show nx p r b ^^^ le l = it p 8 (r ^^^ (b + 256 * le l))
    rw [cons_xor hb.1, ← Nat.xor_assoc, it_xor, it_shift]
    rfl

theorem sm_append (p r : Nat) (l m : List Nat) : sm p r (l ++ m) = sm p (sm p r l) m := List.foldl_append ..

theorem bit_le (l : List Nat) : ∀ i, Byt l → i < 8 * l.length → (le l).testBit i = (l[i / 8]?.getD 0).testBit (i % 8) := by
  induction l with
  | nil => intro i _ h; simp at h
  | cons b l ih =>
    intro i h hi
    have hb := h.cons
    show (b + 256 * le l).testBit i = _
    rw [bit_cons hb.1]
    by_cases h8 : i < 8
    · have e0 : i / 8 = 0 := by omega
      have e1 : i % 8 = i := by omega
      simp [h8, e0, e1]
    · rw [List.length_cons] at hi
      have e0 : i / 8 = (i - 8) / 8 + 1 := by omega
      have e1 : i % 8 = (i - 8) % 8 := by omega
      rw [if_neg h8, ih _ hb.2 (by omega), e0, e1, List.getElem?_cons_succ]

theorem le_lt (l : List Nat) : Byt l → le l < 2 ^ (8 * l.length) := by
  induction l with
  | nil => intro _; simp [le]
  | cons b l ih =>
    intro h
    have hb := h.cons
    have := ih hb.2
    show b + 256 * le l < _
    have e2 : 8 * (b :: l).length = 8 + 8 * l.length := by rw [List.length_cons]; omega
    rw [e2, Nat.pow_add]
    have := hb.1
    have : 2 ^ 8 = 256 := rfl
    omega

/-- one bit turned -/
theorem le_set (l : List Nat) : ∀ j t, Byt l → j < l.length → t < 8 → le (l.set j (l[j]?.getD 0 ^^^ 2 ^ t)) = le l ^^^ 2 ^ (8 * j + t) := by
  induction l with
  | nil => intro j t _ h; simp at h
  | cons b l ih =>
    intro j t h hj ht
    have hb := h.cons
    have hx : b ^^^ 2 ^ t < 256 := Nat.xor_lt_two_pow (n := 8) (by have := hb.1; omega) (Nat.pow_lt_pow_right (by omega) ht)
    cases j with
    | zero =>
      show (b ^^^ 2 ^ t) + 256 * le l = (b + 256 * le l) ^^^ 2 ^ (8 * 0 + t)
      rw [cons_xor hx, cons_xor hb.1, Nat.xor_assoc, Nat.xor_assoc, Nat.mul_zero, Nat.zero_add, Nat.xor_comm (2 ^ t)]
    | succ j =>
      rw [List.length_cons] at hj
      have e := ih j t hb.2 (by omega) ht
      rw [List.set_cons_succ, List.getElem?_cons_succ]
      show b + 256 * le (l.set j (l[j]?.getD 0 ^^^ 2 ^ t)) = (b + 256 * le l) ^^^ 2 ^ (8 * (j + 1) + t)
      rw [e, cons_xor hb.1, cons_xor hb.1, Nat.xor_assoc]
      congr 1
      have e3 : 2 ^ (8 * (j + 1) + t) = 2 ^ (8 * j + t) * 2 ^ 8 := by rw [← Nat.pow_add]; congr 1; omega
      rw [e3]
      apply Nat.eq_of_testBit_eq
      intro i
      simp only [Nat.testBit_mul_two_pow, Nat.testBit_xor]
      by_cases h8 : 8 ≤ i <;> simp [h8]

/-- neighbouring bits that are turned are told -/
theorem burst {p w : Nat} (hp : p < 2 ^ (w + 1)) (ht : p.testBit w = true) (r f m : Nat) (b c : List Nat) (hb : Byt b) (hc : Byt c) (hl : c.length = b.length) (hm : m < 2 ^ (w + 1)) (h0 : m ≠ 0) (hf : f ≤ 8 * b.length) (he : le c = le b ^^^ m * 2 ^ f) : sm p r c ≠ sm p r b := by
  rw [sm_eq p c r hc, sm_eq p b r hb, hl, he, ← Nat.xor_assoc, it_xor]
  intro h
  have h1 : it p (8 * b.length) (m * 2 ^ f) = 0 := by
    have := congrArg (it p (8 * b.length) (r ^^^ le b) ^^^ ·) h
    simpa [← Nat.xor_assoc] using this
  obtain ⟨k, hk⟩ : ∃ k, 8 * b.length = f + k := ⟨8 * b.length - f, by omega⟩
  rw [hk, it_add, it_shift] at h1
  exact it_ne hp ht k m hm h0 h1

/-- the sum, bit by bit -/
def ser (p r M : Nat) : Nat → Nat
  | 0 => r
  | k + 1 => A p (ser p r M k ^^^ (M / 2 ^ k % 2))

theorem ser_inv (p r M : Nat) : ∀ k, ser p r M k ^^^ M / 2 ^ k = it p k (r ^^^ M) := by
  intro k
  induction k with
  | zero => simp [ser, it]
  | succ k ih =>
    rw [it_last, ← ih]
    have e : M / 2 ^ k = (M / 2 ^ k % 2) ^^^ (M / 2 ^ (k + 1)) * 2 := by
      rw [Nat.pow_succ, ← Nat.div_div_eq_div_mul]
      generalize M / 2 ^ k = y
      apply Nat.eq_of_testBit_eq
      intro i
      have h2 : y / 2 * 2 = y / 2 * 2 ^ 1 := rfl
      rw [Nat.testBit_xor, h2, Nat.testBit_mul_two_pow, Nat.testBit_div_two]
      cases i with
      | zero => simp [Nat.testBit_zero]
      | succ i =>
        have h3 : (y % 2).testBit (i + 1) = false := Nat.testBit_lt_two_pow (Nat.lt_of_lt_of_le (Nat.mod_lt y (by omega)) (Nat.pow_le_pow_right (n := 2) (by omega) (by omega : 1 ≤ i + 1)))
        simp [h3]
    show A p (ser p r M k ^^^ (M / 2 ^ k % 2)) ^^^ M / 2 ^ (k + 1) = _
    conv => rhs; rw [e]
    rw [← Nat.xor_assoc, A_xor p (_ ^^^ _), A_double]

/-- of all bits -/
theorem ser_sm (p r : Nat) (l : List Nat) (h : Byt l) : ser p r (le l) (8 * l.length) = sm p r l := by
  have := ser_inv p r (le l) (8 * l.length)
  rw [Nat.div_eq_of_lt (le_lt l h), Nat.xor_zero] at this
  rw [this, sm_eq p l r h]
end Crc
end Go.Proofs.YtkhkcfbacnkcnaaGreatDoor
/- Bits the other way round: the sum that takes bits from the highest on. -/
namespace Go.Proofs.YtkhkcfbacnkcnaaGreatDoor
namespace Crc

/-- so many bits, the other way round -/
def rev : Nat → Nat → Nat
  | 0, _ => 0
  | w + 1, x => 2 ^ w * (x % 2) + rev w (x / 2)

theorem rev_lt (w : Nat) : ∀ x, rev w x < 2 ^ w := by
  induction w with
  | zero => intro x; simp [rev]
  | succ w ih =>
    intro x
    have h1 := ih (x / 2)
    have h2 : x % 2 < 2 := Nat.mod_lt _ (by omega)
    simp only [rev]
    rw [Nat.pow_succ]
    rcases Nat.mod_two_eq_zero_or_one x with h | h <;> rw [h] <;> omega

theorem bit_rev (w : Nat) : ∀ x i, (rev w x).testBit i = (decide (i < w) && x.testBit (w - 1 - i)) := by
  induction w with
  | zero => intro x i; simp [rev]
  | succ w ih =>
    intro x i
    simp only [rev]
    rw [Nat.testBit_two_pow_mul_add _ (rev_lt w _), ih]
    by_cases h : i < w
    · have e : w + 1 - 1 - i = w - 1 - i + 1 := by omega
      have h1 : i < w + 1 := by omega
      rw [if_pos h, e, Nat.testBit_add_one]
      simp [h, h1]
    · rw [if_neg h]
      by_cases h1 : i = w
      · subst h1
        simp
      · have h2 : ¬ i < w + 1 := by omega
        have h3 : (x % 2).testBit (i - w) = false := Nat.testBit_lt_two_pow (Nat.lt_of_lt_of_le (Nat.mod_lt x (by omega)) (Nat.pow_le_pow_right (n := 2) (by omega) (by omega : 1 ≤ i - w)))
        simp [h2, h3]

theorem rev_xor (w x y : Nat) : rev w (x ^^^ y) = rev w x ^^^ rev w y := by
  apply Nat.eq_of_testBit_eq
  intro i
  simp only [bit_rev, Nat.testBit_xor]
  by_cases h : i < w <;> simp [h]

theorem rev_rev {w x : Nat} (hx : x < 2 ^ w) : rev w (rev w x) = x := by
  apply Nat.eq_of_testBit_eq
  intro i
  simp only [bit_rev]
  by_cases h : i < w
  · have h1 : w - 1 - i < w := by omega
    have e : w - 1 - (w - 1 - i) = i := by omega
    simp [h, h1, e]
  · have h1 : x.testBit i = false := Nat.testBit_lt_two_pow (Nat.lt_of_lt_of_le hx (Nat.pow_le_pow_right (n := 2) (by omega) (by omega : w ≤ i)))
    simp [h, h1]

theorem rev_inj {w x y : Nat} (hx : x < 2 ^ w) (hy : y < 2 ^ w) (h : rev w x = rev w y) : x = y := by
  rw [← rev_rev hx, h, rev_rev hy]

theorem rev_byte {b : Nat} (hb : b < 256) : rev 16 (rev 8 b) = b * 256 := by
  apply Nat.eq_of_testBit_eq
  intro i
  have e : b * 256 = b * 2 ^ 8 := rfl
  rw [e, Nat.testBit_mul_two_pow]
  simp only [bit_rev]
  by_cases h : i < 16
  · by_cases h1 : 8 ≤ i
    · have e1 : 8 - 1 - (16 - 1 - i) = i - 8 := by omega
      have h2 : 16 - 1 - i < 8 := by omega
      simp only [h, h1, h2, e1, decide_true, Bool.true_and]
    · have h2 : ¬ 16 - 1 - i < 8 := by omega
      simp only [h, h1, h2, decide_true, decide_false, Bool.true_and, Bool.false_and]
  · have h1 : b.testBit (i - 8) = false := Nat.testBit_lt_two_pow (Nat.lt_of_lt_of_le (show b < 2 ^ 8 from hb) (Nat.pow_le_pow_right (n := 2) (by omega) (by omega : 8 ≤ i - 8)))
    simp [h, h1]

theorem rev_half {q : Nat} (hq : q < 65536) : rev 16 q * 2 % 65536 = rev 16 (q / 2) := by
  apply Nat.eq_of_testBit_eq
  intro i
  have e0 : (65536 : Nat) = 2 ^ 16 := rfl
  have e1 : rev 16 q * 2 = rev 16 q * 2 ^ 1 := rfl
  rw [e0, Nat.testBit_mod_two_pow, e1, Nat.testBit_mul_two_pow]
  simp only [bit_rev]
  by_cases h : i < 16
  · rw [Nat.testBit_div_two]
    cases i with
    | zero =>
      have h1 : q.testBit 16 = false := Nat.testBit_lt_two_pow hq
      simp [h1]
    | succ i =>
      have h1 : i < 16 := by omega
      have e2 : 16 - 1 - i = 16 - 1 - (i + 1) + 1 := by omega
      simp [h, h1, e2]
  · simp [h]

theorem rev_top (q : Nat) : rev 16 q / 32768 = q % 2 := by
  have h := rev_lt 15 (q / 2)
  have e : rev 16 q = 2 ^ 15 * (q % 2) + rev 15 (q / 2) := rfl
  rw [e]
  have : (2 : Nat) ^ 15 = 32768 := rfl
  omega

def P16 : Nat := 33800

theorem step_rev {q : Nat} (hq : q < 65536) : rev 16 q * 2 % 65536 ^^^ (if q % 2 = 1 then 4129 else 0) = rev 16 (A P16 q) := by
  unfold A
  rw [rev_xor, rev_half hq]
  congr 1
  split <;> decide

theorem rev_bit : ∀ t, t < 8 → rev 8 (2 ^ (7 - t)) = 2 ^ t := by decide

/-- one bit of a byte turned, the other way round -/
theorem rev_turn {x t : Nat} (ht : t < 8) : rev 8 (x ^^^ 2 ^ (7 - t)) = rev 8 x ^^^ 2 ^ t := by rw [rev_xor, rev_bit t ht]
end Crc
end Go.Proofs.YtkhkcfbacnkcnaaGreatDoor
/- The program's own steps: a byte more. -/
namespace Go.Proofs.YtkhkcfbacnkcnaaGreatDoor
open Go.RowKit Go.MapKept
namespace Crc

def P32 : Nat := 3988292384

theorem mask32 (p e : Nat) (hp : p < 4294967296) (he : e = 0 ∨ e = 1) : bits .and .u32 (p : Int) (IntKind.wrap .u32 (-(e : Int))) = (((if e = 1 then p else 0 : Nat)) : Int) := by
  rcases he with rfl | rfl
  · have h : IntKind.wrap .u32 (-((0 : Nat) : Int)) = ((0 : Nat) : Int) := by rw [IntKind.wrap_u32']; rfl
    rw [h, u32_and_nat p 0 hp (by omega)]
    simp
  · have h : IntKind.wrap .u32 (-((1 : Nat) : Int)) = ((4294967295 : Nat) : Int) := by rw [IntKind.wrap_u32']; rfl
    have h2 : p &&& 4294967295 = p % 4294967296 := Nat.and_two_pow_sub_one_eq_mod p 32
    rw [h, u32_and_nat p _ hp (by omega), h2, Nat.mod_eq_of_lt hp]
    simp

theorem mask16 (p e : Nat) (hp : p < 65536) (he : e = 0 ∨ e = 1) : bits .and .u16 (p : Int) (IntKind.wrap .u16 (-(e : Int))) = (((if e = 1 then p else 0 : Nat)) : Int) := by
  rcases he with rfl | rfl
  · have h : IntKind.wrap .u16 (-((0 : Nat) : Int)) = ((0 : Nat) : Int) := by rw [IntKind.wrap_u16]; rfl
    rw [h, u16_and_nat p 0 hp (by omega)]
    simp
  · have h : IntKind.wrap .u16 (-((1 : Nat) : Int)) = ((65535 : Nat) : Int) := by rw [IntKind.wrap_u16]; rfl
    have h2 : p &&& 65535 = p % 65536 := Nat.and_two_pow_sub_one_eq_mod p 16
    rw [h, u16_and_nat p _ hp (by omega), h2, Nat.mod_eq_of_lt hp]
    simp

theorem step32 (x : Nat) (hx : x < 4294967296) : bits .xor .u32 ((x : Int) / 2) (bits .and .u32 3988292384 (IntKind.wrap .u32 (-(bits .and .u32 (x : Int) 1)))) = ((A P32 x : Nat) : Int) := by
  have h1 : bits .and .u32 (x : Int) 1 = ((x % 2 : Nat) : Int) := by
    have := u32_and_nat x 1 hx (by omega)
    rw [nat_mask1] at this
    exact this
  rw [h1]
  have h2 := mask32 3988292384 (x % 2) (by omega) (by omega)
  rw [show ((3988292384 : Nat) : Int) = (3988292384 : Int) from rfl] at h2
  rw [h2, show (x : Int) / 2 = ((x / 2 : Nat) : Int) from rfl, u32_xor_nat _ _ (by omega) (by split <;> omega)]
  rfl

theorem step16 (q : Nat) (hq : q < 65536) : bits .xor .u16 (IntKind.wrap .u16 (((rev 16 q : Nat) : Int) * 2)) (bits .and .u16 4129 (IntKind.wrap .u16 (-(((rev 16 q : Nat) : Int) / 32768)))) = ((rev 16 (A P16 q) : Nat) : Int) := by
  have h1 : ((rev 16 q : Nat) : Int) / 32768 = ((q % 2 : Nat) : Int) := by rw [← rev_top]; rfl
  have h0 : IntKind.wrap .u16 (((rev 16 q : Nat) : Int) * 2) = ((rev 16 q * 2 % 65536 : Nat) : Int) := by rw [IntKind.wrap_u16]; omega
  have h2 := mask16 4129 (q % 2) (by omega) (by omega)
  rw [show ((4129 : Nat) : Int) = (4129 : Int) from rfl] at h2
  rw [h1, h2, h0, u16_xor_nat _ _ (by omega) (by split <;> omega), step_rev hq]

theorem it32_lt {x : Nat} (hx : x < 4294967296) (k : Nat) : it P32 k x < 4294967296 := it_lt (w := 32) (by decide) k x hx
theorem it16_lt {x : Nat} (hx : x < 65536) (k : Nat) : it P16 k x < 65536 := it_lt (w := 16) (by decide) k x hx

set_option maxHeartbeats 800000 in
theorem next32_any (w : World) (r b : Nat) (hr : r < 4294967296) (hb : b < 256) :
    Calls Tryz.prog 114 #[.int .u32 (r : Int), .int .u8 (b : Int)] w fun e w' => e = .returned (.int .u32 (nx P32 r b : Nat)) ∧ w = w' := by
  have hx : bits .xor .u32 (r : Int) (b : Int) = ((r ^^^ b : Nat) : Int) := u32_xor_nat r b hr (by omega)
  have hlt : r ^^^ b < 4294967296 := Nat.xor_lt_two_pow (n := 32) hr (by omega)
  go_enter Tryz.func114, Tryz.ntmps114
  go_wp2
  go_loopw [0, 9] (fun s i wr => ∃ m : Nat, m ≤ 8 ∧ i = .int .i64 (m : Int) ∧ s = .int .u32 ((it P32 m (r ^^^ b) : Nat) : Int) ∧ wr = w) (fun _ i _ => 8 - (intOf i).toNat)
  case atStart => exact ⟨0, by omega, rfl, rfl, rfl⟩
  case round =>
    obtain ⟨m, hm, rfl, rfl, rfl⟩ := hrel
    have hs := step32 _ (it32_lt hlt m)
    rw [← it_last, IntKind.wrap_u32'] at hs
    by_cases h8 : m < 8
    · go_wp2
      exact ⟨⟨m + 1, by omega, by go_num, rfl, trivial⟩, by simp [intOf]; omega⟩
    · obtain rfl : m = 8 := by omega
      clear hs
      go_wp2
      go_ret
      exact ⟨rfl, rfl⟩

set_option maxHeartbeats 800000 in
theorem next16_any (w : World) (q b : Nat) (hq : q < 65536) (hb : b < 256) :
    Calls Tryz.prog 115 #[.int .u16 ((rev 16 q : Nat) : Int), .int .u8 (b : Int)] w fun e w' => e = .returned (.int .u16 (rev 16 (nx P16 q (rev 8 b)) : Nat)) ∧ w = w' := by
  have hv : rev 8 b < 256 := rev_lt 8 b
  have hlt : q ^^^ rev 8 b < 65536 := Nat.xor_lt_two_pow (n := 16) hq (by omega)
  have hx : bits .xor .u16 ((rev 16 q : Nat) : Int) ((b : Int) * 256) = ((rev 16 (q ^^^ rev 8 b) : Nat) : Int) := by
    have h0 : (b : Int) * 256 = ((b * 256 : Nat) : Int) := by omega
    rw [h0, u16_xor_nat _ _ (rev_lt 16 q) (by omega), rev_xor, rev_byte hb]
  go_enter Tryz.func115, Tryz.ntmps115
  go_wp2
  go_loopw [0, 10] (fun s i wr => ∃ m : Nat, m ≤ 8 ∧ i = .int .i64 (m : Int) ∧ s = .int .u16 ((rev 16 (it P16 m (q ^^^ rev 8 b)) : Nat) : Int) ∧ wr = w) (fun _ i _ => 8 - (intOf i).toNat)
  case atStart => exact ⟨0, by omega, rfl, rfl, rfl⟩
  case round =>
    obtain ⟨m, hm, rfl, rfl, rfl⟩ := hrel
    have hs := step16 _ (it16_lt hlt m)
    rw [← it_last] at hs
    by_cases h8 : m < 8
    · go_wp2
      exact ⟨⟨m + 1, by omega, by go_num, rfl, trivial⟩, by simp [intOf]; omega⟩
    · obtain rfl : m = 8 := by omega
      clear hs
      go_wp2
      go_ret
      exact ⟨rfl, rfl⟩
end Crc
end Go.Proofs.YtkhkcfbacnkcnaaGreatDoor
/- Bytes and parts as they lie in memory, and the program's sums of them. -/
namespace Go.Proofs.YtkhkcfbacnkcnaaGreatDoor
open Go.RowKit Go.MapKept
namespace Crc

/-- these bytes lie at A -/
structure Bts (w : World) (A : Option Addr) (l : List Nat) : Prop where
  byt : Byt l
  len : l.length ≤ 9223372036854775807
  at' : ∀ j (h : j < l.length), ∃ b o, A = some ⟨b, o, none⟩ ∧ b < w.heap.size ∧ w.cell? ⟨b, o + j, none⟩ = some (.int .u8 (l[j] : Int))

/-- a part -/
structure Prt where
  a : Option Addr
  c : Nat
  l : List Nat

/-- these parts lie at A -/
structure Pts (w : World) (A : Option Addr) (ps : List Prt) : Prop where
  len : ps.length ≤ 9223372036854775807
  at' : ∀ i (h : i < ps.length), ∃ b o, A = some ⟨b, o, none⟩ ∧ b < w.heap.size ∧ w.cell? ⟨b, o + i, none⟩ = some (.slice ps[i].a ps[i].l.length ps[i].c)
  bts : ∀ i (h : i < ps.length), Bts w ps[i].a ps[i].l

/-- all bytes, one part behind the other -/
def flat (ps : List Prt) : List Nat := ps.flatMap Prt.l

theorem flat_take {ps : List Prt} {m : Nat} (h : m < ps.length) : flat (ps.take (m + 1)) = flat (ps.take m) ++ ps[m].l := by
  unfold flat
  rw [List.take_succ_eq_append_getElem h, List.flatMap_append]
  simp

theorem Pts.flat_byt {w : World} {A : Option Addr} {ps : List Prt} (h : Pts w A ps) : Byt (flat ps) := by
  intro b hb
  obtain ⟨q, hq, hb⟩ := List.mem_flatMap.1 hb
  obtain ⟨i, hi, rfl⟩ := List.getElem_of_mem hq
  exact (h.bts i hi).byt b hb

theorem Byt.take {l : List Nat} (h : Byt l) (n : Nat) : Byt (l.take n) := fun b hb => h b (List.mem_of_mem_take hb)
theorem Byt.append {l m : List Nat} (h : Byt l) (g : Byt m) : Byt (l ++ m) := fun b hb => (List.mem_append.1 hb).elim (h b) (g b)
theorem Byt.rev8 (l : List Nat) : Byt (l.map (rev 8)) := by
  intro b hb
  obtain ⟨x, _, rfl⟩ := List.mem_map.1 hb
  exact rev_lt 8 x

theorem nx32_lt {r b : Nat} (hr : r < 4294967296) (hb : b < 256) : nx P32 r b < 4294967296 := it32_lt (Nat.xor_lt_two_pow (n := 32) hr (by omega)) 8
theorem nx16_lt {r b : Nat} (hr : r < 65536) (hb : b < 256) : nx P16 r b < 65536 := it16_lt (Nat.xor_lt_two_pow (n := 16) hr (by omega)) 8

theorem sm32_lt (l : List Nat) : ∀ r, r < 4294967296 → Byt l → sm P32 r l < 4294967296 := by
  induction l with
  | nil => exact fun _ h _ => h
  | cons b l ih => exact fun r h hl => ih _ (nx32_lt h hl.cons.1) hl.cons.2
theorem sm16_lt (l : List Nat) : ∀ r, r < 65536 → Byt l → sm P16 r l < 65536 := by
  induction l with
  | nil => exact fun _ h _ => h
  | cons b l ih => exact fun r h hl => ih _ (nx16_lt h hl.cons.1) hl.cons.2

theorem sm_take {p r : Nat} {l : List Nat} {j : Nat} (h : j < l.length) : sm p r (l.take (j + 1)) = nx p (sm p r (l.take j)) l[j] := by
  rw [List.take_succ_eq_append_getElem h, sm_append]
  rfl

/-- the sums, as the document says them -/
def S32 (l : List Nat) : Nat := 4294967295 - sm P32 4294967295 l
def T16 (l : List Nat) : Nat := sm P16 65535 (l.map (rev 8))
def S16 (l : List Nat) : Nat := rev 16 (T16 l)

theorem inv32 (x : Nat) (hx : x < 4294967296) : bits .xor .u32 IntKind.u32.max (x : Int) = ((4294967295 - x : Nat) : Int) := by
  have h := u32_xor_nat 4294967295 x (by omega) hx
  have e : 4294967295 ^^^ x = 4294967295 - x := by
    apply Nat.eq_of_testBit_eq
    intro i
    have e1 : 4294967295 - x = 2 ^ 32 - (x + 1) := by omega
    have e2 : (4294967295 : Nat) = 2 ^ 32 - 1 := rfl
    rw [Nat.testBit_xor, e1, Nat.testBit_two_pow_sub_succ (show x < 2 ^ 32 from hx), e2, Nat.testBit_two_pow_sub_one]
    by_cases hi : i < 32
    · simp [hi]
    · have : x.testBit i = false := Nat.testBit_lt_two_pow (Nat.lt_of_lt_of_le (show x < 2 ^ 32 from hx) (Nat.pow_le_pow_right (n := 2) (by omega) (by omega : 32 ≤ i)))
      simp [hi, this]
  rw [e] at h
  exact h

section
variable {w : World}
set_option maxHeartbeats 1600000 in
set_option maxRecDepth 100000 in
theorem sum32_any (A : Option Addr) (c : Nat) (ps : List Prt) (h : Pts w A ps) :
    Calls Tryz.prog 101 #[.slice A ps.length c] w fun e w' => e = .returned (.int .u32 (S32 (flat ps) : Nat)) ∧ w = w' := by
  have hn := h.len
  have HF := Lib.hid h.flat_byt
  have H := Lib.hid h
  clear h
  have HN := Lib.hid (fun r b hr hb => next32_any w r b hr hb)
  go_enter Tryz.func101, Tryz.ntmps101
  go_wp2
  go_loopw [3, 10] (fun s i wr => ∃ m : Nat, m ≤ ps.length ∧ i = .int .i64 (m : Int) ∧ s = .int .u32 ((sm P32 4294967295 (flat (ps.take m)) : Nat) : Int) ∧ w = wr) (fun _ i _ => ps.length - (intOf i).toNat)
  case atStart => exact ⟨0, Nat.zero_le _, rfl, rfl, rfl⟩
  case round =>
    obtain ⟨m, hm, rfl, rfl, rfl⟩ := hrel
    by_cases hlt : m < ps.length
    · obtain ⟨b, o, rfl, hb, hcell⟩ := H.out.at' m hlt
      have hbt := H.out.bts m hlt
      have hbl := hbt.len
      have HB := Lib.hid hbt
      have hr0 : sm P32 4294967295 (flat (ps.take m)) < 4294967296 := sm32_lt _ _ (by omega) (fun x hx => by
        obtain ⟨q, hq, hx⟩ := List.mem_flatMap.1 hx
        obtain ⟨i, hi, rfl⟩ := List.getElem_of_mem (List.mem_of_mem_take hq)
        exact (H.out.bts i hi).byt x hx)
      have HR := Lib.hid (show sm P32 4294967295 (flat (ps.take (m + 1))) = sm P32 (sm P32 4294967295 (flat (ps.take m))) (ps[m].l) by rw [flat_take hlt, sm_append])
      generalize ps[m] = q at *
      generalize sm P32 4294967295 (flat (ps.take m)) = r0 at *
      obtain ⟨qa, qc, ql⟩ := q
      simp only at hcell hbl HB HR
      clear hbt
      go_wp2
      go_loopw [3, 16] (fun s i wr => ∃ j : Nat, j ≤ ql.length ∧ i = .int .i64 (j : Int) ∧ s = .int .u32 ((sm P32 r0 (ql.take j) : Nat) : Int) ∧ w = wr) (fun _ i _ => ql.length - (intOf i).toNat)
      case atStart => exact ⟨0, Nat.zero_le _, rfl, rfl, rfl⟩
      case round =>
        obtain ⟨j, hj, rfl, rfl, rfl⟩ := hrel
        by_cases hjl : j < ql.length
        · obtain ⟨b', o', rfl, hb', hc'⟩ := HB.out.at' j hjl
          have hbb : ql[j] < 256 := HB.out.byt _ (List.getElem_mem hjl)
          have hrj : sm P32 r0 (ql.take j) < 4294967296 := sm32_lt _ _ hr0 (HB.out.byt.take j)
          have hnx := HN.out _ _ hrj hbb
          have e : sm P32 r0 (ql.take (j + 1)) = nx P32 (sm P32 r0 (ql.take j)) (ql[j]) := sm_take hjl
          rw [← e] at hnx
          have HX := Lib.hid hnx
          clear hnx e
          go_wp2_with fail
          refine HX.out.mono ?_
          rintro e w' ⟨rfl, rfl⟩
          go_wp2
          exact ⟨⟨j + 1, by omega, by go_num, rfl, trivial⟩, by simp [intOf]; omega⟩
        · obtain rfl : j = ql.length := by omega
          rw [List.take_length, ← HR.out]
          go_wp2
          exact ⟨⟨m + 1, by omega, by go_num, rfl, trivial⟩, by simp [intOf]; omega⟩
    · obtain rfl : m = ps.length := by omega
      rw [List.take_length]
      have hi := inv32 _ (sm32_lt (flat ps) 4294967295 (by omega) HF.out)
      go_wp2
      go_ret
      exact ⟨rfl, rfl⟩

set_option maxHeartbeats 1600000 in
set_option maxRecDepth 100000 in
theorem sum16_gen (f g : Nat → Nat) (hf : f 65535 = 65535) (hg : ∀ b, g b < 256) (hN : ∀ r b : Nat, r < 65536 → b < 256 → Calls Tryz.prog 115 #[.int .u16 ((f r : Nat) : Int), .int .u8 (b : Int)] w fun e w' => e = .returned (.int .u16 (f (nx P16 r (g b)) : Nat)) ∧ w = w') (A : Option Addr) (c : Nat) (ps : List Prt) (h : Pts w A ps) :
    Calls Tryz.prog 102 #[.slice A ps.length c] w fun e w' => e = .returned (.int .u16 (f (sm P16 65535 ((flat ps).map g)) : Nat)) ∧ w = w' := by
  have hn := h.len
  have hby : ∀ l : List Nat, Byt (l.map g) := fun l b hb => by obtain ⟨x, _, rfl⟩ := List.mem_map.1 hb; exact hg x
  have HY := Lib.hid hby
  have H := Lib.hid h
  clear h
  have HN := Lib.hid hN
  clear hN hg hby
  go_enter Tryz.func102, Tryz.ntmps102
  go_wp2
  go_loopw [3, 10] (fun s i wr => ∃ m : Nat, m ≤ ps.length ∧ i = .int .i64 (m : Int) ∧ s = .int .u16 ((f (sm P16 65535 ((flat (ps.take m)).map g)) : Nat) : Int) ∧ w = wr) (fun _ i _ => ps.length - (intOf i).toNat)
  case atStart =>
    refine ⟨0, Nat.zero_le _, rfl, ?_, rfl⟩
    rw [List.take_zero]
    show Value.int .u16 65535 = .int .u16 ((f 65535 : Nat) : Int)
    rw [hf]
    rfl
  case round =>
    obtain ⟨m, hm, rfl, rfl, rfl⟩ := hrel
    by_cases hlt : m < ps.length
    · obtain ⟨b, o, rfl, hb, hcell⟩ := H.out.at' m hlt
      have hbt := H.out.bts m hlt
      have hbl := hbt.len
      have HB := Lib.hid hbt
      have hr0 : sm P16 65535 ((flat (ps.take m)).map g) < 65536 := sm16_lt _ _ (by omega) (HY.out _)
      have HR := Lib.hid (show sm P16 65535 ((flat (ps.take (m + 1))).map g) = sm P16 (sm P16 65535 ((flat (ps.take m)).map g)) ((ps[m].l).map g) by rw [flat_take hlt, List.map_append, sm_append])
      generalize ps[m] = q at *
      generalize sm P16 65535 ((flat (ps.take m)).map g) = r0 at *
      obtain ⟨qa, qc, ql⟩ := q
      simp only at hcell hbl HB HR
      clear hbt
      go_wp2
      go_loopw [3, 16] (fun s i wr => ∃ j : Nat, j ≤ ql.length ∧ i = .int .i64 (j : Int) ∧ s = .int .u16 ((f (sm P16 r0 ((ql.map g).take j)) : Nat) : Int) ∧ w = wr) (fun _ i _ => ql.length - (intOf i).toNat)
      case atStart => exact ⟨0, Nat.zero_le _, rfl, by rw [List.take_zero]; rfl, rfl⟩
      case round =>
        obtain ⟨j, hj, rfl, rfl, rfl⟩ := hrel
        by_cases hjl : j < ql.length
        · obtain ⟨b', o', rfl, hb', hc'⟩ := HB.out.at' j hjl
          have hbb : ql[j] < 256 := HB.out.byt _ (List.getElem_mem hjl)
          have hrj : sm P16 r0 ((ql.map g).take j) < 65536 := sm16_lt _ _ hr0 ((HY.out _).take j)
          have hnx := HN.out _ _ hrj hbb
          have e : sm P16 r0 ((ql.map g).take (j + 1)) = nx P16 (sm P16 r0 ((ql.map g).take j)) (g ql[j]) := by rw [sm_take (by rw [List.length_map]; exact hjl), List.getElem_map]
          rw [← e] at hnx
          have HX := Lib.hid hnx
          clear hnx e
          go_wp2_with fail
          refine HX.out.mono ?_
          rintro e w' ⟨rfl, rfl⟩
          go_wp2
          exact ⟨⟨j + 1, by omega, by go_num, rfl, trivial⟩, by simp [intOf]; omega⟩
        · obtain rfl : j = ql.length := by omega
          rw [List.take_of_length_le (by rw [List.length_map]; exact Nat.le_refl _), ← HR.out]
          go_wp2
          exact ⟨⟨m + 1, by omega, by go_num, rfl, trivial⟩, by simp [intOf]; omega⟩
    · obtain rfl : m = ps.length := by omega
      rw [List.take_length]
      go_wp2
      go_ret
      exact ⟨rfl, rfl⟩

theorem sum16_any (A : Option Addr) (c : Nat) (ps : List Prt) (h : Pts w A ps) :
    Calls Tryz.prog 102 #[.slice A ps.length c] w fun e w' => e = .returned (.int .u16 (S16 (flat ps) : Nat)) ∧ w = w' :=
  sum16_gen (rev 16) (rev 8) (by decide) (rev_lt 8) (fun r b hr hb => next16_any w r b hr hb) A c ps h
end
end Crc
end Go.Proofs.YtkhkcfbacnkcnaaGreatDoor
/- The chapter's example; and what new parts hold. -/
namespace Go.Proofs.YtkhkcfbacnkcnaaGreatDoor
open Go.RowKit Go.MapKept
namespace Crc

theorem conv_new (w : World) (C : Array Value) (n c : Nat) : (convert 30 30 (.slice (some ⟨w.heap.size, 0, none⟩) n c)).run Tryz.prog (w.alloc (.cells C 5)) = .ok (.slice (some ⟨w.heap.size, 0, none⟩) n c) (w.alloc (.cells C 5 (C.size, C.size + 1))) := by
  have hsh : (w.alloc (.cells C 5)).shape? w.heap.size = some (5, C.size) := by
    have : (w.alloc (.cells C 5)).heap[w.heap.size]? = some (.cells C 5) := by
      show (w.heap.push (.cells C 5))[w.heap.size]? = _
      simp
    unfold World.shape?
    rw [this]
  have hfr : (w.alloc (.cells C 5)).freeze ⟨w.heap.size, C.size, none⟩ 1 = w.alloc (.cells C 5 (C.size, C.size + 1)) := by
    have hm : ∀ (a : Array Obj) (x : Obj) (f : Obj → Obj), (a.push x).modify a.size f = a.push (f x) := by
      intro a x f
      apply Array.ext
      · simp
      · intro i h1 h2
        simp only [Array.getElem_modify, Array.getElem_push]
        by_cases h : a.size = i
        · subst h
          simp
        · have hi : i < a.size := by simp at h1; omega
          simp [h, hi]
    unfold World.freeze
    rw [if_neg (by decide)]
    show ({ w.alloc (.cells C 5) with heap := (w.heap.push (.cells C 5)).modify w.heap.size _ } : World) = _
    rw [hm]
    rfl
  simp [convert, run_underlying Tryz.underlying30, run_underlying Tryz.underlying5, markStringish, hsh, hfr]

theorem Bts.keep {w w' : World} {A : Option Addr} {l : List Nat} (h : Bts w A l) (hb : Below w.heap.size w w') : Bts w' A l :=
  ⟨h.byt, h.len, fun j hj => by
    obtain ⟨b, o, e, hlt, hc⟩ := h.at' j hj
    exact ⟨b, o, e, Nat.lt_of_lt_of_le hlt hb.size, (hb.cell (p := ⟨b, o + j, none⟩) hlt).trans hc⟩⟩

theorem Pts.keep {w w' : World} {A : Option Addr} {ps : List Prt} (h : Pts w A ps) (hb : Below w.heap.size w w') : Pts w' A ps :=
  ⟨h.len, fun j hj => by
    obtain ⟨b, o, e, hlt, hc⟩ := h.at' j hj
    exact ⟨b, o, e, Nat.lt_of_lt_of_le hlt hb.size, (hb.cell (p := ⟨b, o + j, none⟩) hlt).trans hc⟩, fun i hi => (h.bts i hi).keep hb⟩

theorem Bts.alloc {w : World} {A : Option Addr} {l : List Nat} (h : Bts w A l) (o : Obj) : Bts (w.alloc o) A l := h.keep ((Below.refl _ _).alloc (Nat.le_refl _) o)
theorem Pts.alloc {w : World} {A : Option Addr} {ps : List Prt} (h : Pts w A ps) (o : Obj) : Pts (w.alloc o) A ps := h.keep ((Below.refl _ _).alloc (Nat.le_refl _) o)

/-- the cell of a part -/
def Prt.val (q : Prt) : Value := .slice q.a q.l.length q.c

theorem alloc_cell (w : World) (C : Array Value) (t : TypeId) (j : Nat) : (w.alloc (.cells C t)).cell? ⟨w.heap.size, j, none⟩ = C[j]? := World.cell?_alloc_mark w C t _ j

/-- new parts -/
theorem pts_new {w : World} (ps : List Prt) (t : TypeId) (hn : ps.length ≤ 9223372036854775807) (h : ∀ i (h : i < ps.length), Bts w ps[i].a ps[i].l) : Pts (w.alloc (.cells (ps.map Prt.val).toArray t)) (some ⟨w.heap.size, 0, none⟩) ps :=
  ⟨hn, fun i hi => ⟨w.heap.size, 0, rfl, by simp, by
    rw [alloc_cell, Nat.zero_add, List.getElem?_toArray, List.getElem?_map, List.getElem?_eq_getElem hi]
    rfl⟩, fun i hi => (h i hi).alloc _⟩

theorem pts_one {w : World} {A : Option Addr} {l : List Nat} (c : Nat) (h : Bts w A l) : Pts (w.alloc (.cells #[.slice A l.length c] 30)) (some ⟨w.heap.size, 0, none⟩) [⟨A, c, l⟩] :=
  pts_new [⟨A, c, l⟩] _ (by simp) (fun i hi => by
    obtain rfl : i = 0 := by simpa using hi
    exact h)

def L9 : List Nat := [49, 50, 51, 52, 53, 54, 55, 56, 57]

theorem bts_nine (w : World) : Bts (w.alloc (.cells #[.int .u8 49, .int .u8 50, .int .u8 51, .int .u8 52, .int .u8 53, .int .u8 54, .int .u8 55, .int .u8 56, .int .u8 57] 5 (9, 10))) (some ⟨w.heap.size, 0, none⟩) L9 :=
  ⟨by unfold Byt; decide, by decide, fun j hj => ⟨w.heap.size, 0, rfl, by simp, by
    rw [World.cell?_alloc_mark, Nat.zero_add]
    have : j < 9 := hj
    match j, this with
    | 0, _ => rfl
    | 1, _ => rfl
    | 2, _ => rfl
    | 3, _ => rfl
    | 4, _ => rfl
    | 5, _ => rfl
    | 6, _ => rfl
    | 7, _ => rfl
    | 8, _ => rfl⟩⟩

theorem flat_one (a : Option Addr) (c : Nat) (l : List Nat) : flat [⟨a, c, l⟩] = l := by simp [flat]

theorem s32_nine : S32 L9 = 3421780262 := by decide +kernel
theorem s16_nine : S16 L9 = 10673 := by decide +kernel

/-- the sums of one part -/
theorem sum32_one {w : World} {A : Option Addr} {l : List Nat} (c cc : Nat) (h : Bts w A l) :
    Calls Tryz.prog 101 #[.slice (some ⟨w.heap.size, 0, none⟩) 1 cc] (w.alloc (.cells #[.slice A l.length c] 30)) fun e w' => e = .returned (.int .u32 (S32 l : Nat)) ∧ w.alloc (.cells #[.slice A l.length c] 30) = w' := by
  have := sum32_any _ cc _ (pts_one c h)
  rw [flat_one] at this
  exact this
theorem sum16_one {w : World} {A : Option Addr} {l : List Nat} (c cc : Nat) (h : Bts w A l) :
    Calls Tryz.prog 102 #[.slice (some ⟨w.heap.size, 0, none⟩) 1 cc] (w.alloc (.cells #[.slice A l.length c] 30)) fun e w' => e = .returned (.int .u16 (S16 l : Nat)) ∧ w.alloc (.cells #[.slice A l.length c] 30) = w' := by
  have := sum16_any _ cc _ (pts_one c h)
  rw [flat_one] at this
  exact this

set_option maxHeartbeats 1600000 in
set_option maxRecDepth 100000 in
theorem lives_any (w : World) : Calls Tryz.prog 89 #[] w fun r w' => r = .returned (.bool true) ∧ Below w.heap.size w w' := by
  have h1 := bts_nine w
  have hcv := conv_new w #[.int .u8 49, .int .u8 50, .int .u8 51, .int .u8 52, .int .u8 53, .int .u8 54, .int .u8 55, .int .u8 56, .int .u8 57] 9 9
  have c1 := sum32_one 9 1 h1
  have c2 := sum16_one 9 1 (h1.alloc (.cells #[.slice (some ⟨w.heap.size, 0, none⟩) 9 9] 30))
  rw [s32_nine, World.size_alloc] at c1
  rw [s16_nine, World.size_alloc, World.size_alloc] at c2
  have hb : Below w.heap.size w (((w.alloc (.cells #[.int .u8 49, .int .u8 50, .int .u8 51, .int .u8 52, .int .u8 53, .int .u8 54, .int .u8 55, .int .u8 56, .int .u8 57] 5 (9, 10))).alloc (.cells #[.slice (some ⟨w.heap.size, 0, none⟩) 9 9] 30)).alloc (.cells #[.slice (some ⟨w.heap.size, 0, none⟩) 9 9] 30)) :=
    (((Below.refl _ _).alloc (Nat.le_refl _) _).alloc (by simp) _).alloc (by simp; omega) _
  have C1 := Lib.hid c1
  have C2 := Lib.hid c2
  have HB := Lib.hid hb
  clear h1 c1 c2 hb
  go_enter Tryz.func89, Tryz.ntmps89
  go_wp2_with fail
  refine C1.out.mono ?_
  rintro e w' ⟨rfl, rfl⟩
  go_wp2_with fail
  refine C2.out.mono ?_
  rintro e w' ⟨rfl, rfl⟩
  go_wp2
  go_ret
  exact ⟨rfl, HB.out⟩
end Crc
end Go.Proofs.YtkhkcfbacnkcnaaGreatDoor
/- The document's sums of a text. -/
namespace Go.Proofs.YtkhkcfbacnkcnaaGreatDoor
open Go.RowKit Go.MapKept
namespace Crc

/-- a text's bytes -/
def tx (s : ByteArray) : List Nat := s.data.toList.map UInt8.toNat

theorem tx_len (s : ByteArray) : (tx s).length = s.size := by
  unfold tx
  rw [List.length_map, Array.length_toList]
  rfl
theorem tx_byt (s : ByteArray) : Byt (tx s) := by
  intro b hb
  obtain ⟨x, _, rfl⟩ := List.mem_map.1 hb
  exact x.toNat_lt
theorem tx_get {s : ByteArray} {i : Nat} (h : i < s.size) : (tx s)[i]?.getD 0 = (s[i]'h).toNat := by
  have h' : i < s.data.toList.length := by rw [Array.length_toList]; exact h
  simp only [tx, List.getElem?_map, List.getElem?_eq_getElem h', Option.map_some, Option.getD_some]
  rfl

theorem bit_div (x i : Nat) : x / 2 ^ i % 2 = (x.testBit i).toNat := by
  rw [Nat.testBit_eq_decide_div_mod_eq]
  rcases Nat.mod_two_eq_zero_or_one (x / 2 ^ i) with h | h <;> simp [h]

theorem A_bit (p x e : Nat) (he : e < 2) : A p (x ^^^ e) = if e = x % 2 then x / 2 else x / 2 ^^^ p := by
  unfold A
  rw [half_xor, odd_xor, Nat.div_eq_of_lt he, Nat.xor_zero]
  have := Nat.mod_lt x (show 0 < 2 by omega)
  by_cases h : e = x % 2
  · have : ¬ (x % 2 + e % 2) % 2 = 1 := by omega
    rw [if_pos h, if_neg this, Nat.xor_zero]
  · have : (x % 2 + e % 2) % 2 = 1 := by omega
    rw [if_neg h, if_pos this]

/-- the bit that is taken next -/
def bit (l : List Nat) (m : Nat) : Nat := le l / 2 ^ m % 2
theorem bit_lt (l : List Nat) (m : Nat) : bit l m < 2 := Nat.mod_lt _ (by omega)
theorem ser_step (p r : Nat) (l : List Nat) (m : Nat) : ser p r (le l) (m + 1) = if bit l m = ser p r (le l) m % 2 then ser p r (le l) m / 2 else ser p r (le l) m / 2 ^^^ p := A_bit p _ _ (bit_lt l m)

theorem ser32_lt (l : List Nat) (m : Nat) : ser P32 4294967295 (le l) m < 4294967296 := by
  induction m with
  | zero => show 4294967295 < _; omega
  | succ m ih =>
    rw [ser_step]
    split
    · omega
    · exact Nat.xor_lt_two_pow (n := 32) (by omega) (by decide)
theorem ser16_lt (l : List Nat) (m : Nat) : ser P16 65535 (le l) m < 65536 := by
  induction m with
  | zero => show 65535 < _; omega
  | succ m ih =>
    rw [ser_step]
    split
    · omega
    · exact Nat.xor_lt_two_pow (n := 16) (by omega) (by decide)

theorem bit32 {s : ByteArray} {m : Nat} (h : m / 8 < s.size) : bits .and .u32 (((s[m / 8]'h).toNat : Int) / 2 ^ (m % 8) % 4294967296) 1 = ((bit (tx s) m : Nat) : Int) := by
  have h1 : (((s[m / 8]'h).toNat : Int) / 2 ^ (m % 8) % 4294967296) = (((s[m / 8]'h).toNat / 2 ^ (m % 8) % 4294967296 : Nat) : Int) := by simp
  rw [h1]
  have h2 := u32_and_nat ((s[m / 8]'h).toNat / 2 ^ (m % 8) % 4294967296) 1 (by omega) (by omega)
  rw [nat_mask1] at h2
  refine h2.trans ?_
  unfold bit
  rw [bit_div, bit_le _ _ (tx_byt s) (by rw [tx_len]; omega), tx_get h, ← bit_div]
  omega

theorem bit16 {s : ByteArray} {m : Nat} (h : m / 8 < s.size) : bits .and .u16 (((s[m / 8]'h).toNat : Int) / 2 ^ (7 - m % 8) % 65536) 1 = ((bit ((tx s).map (rev 8)) m : Nat) : Int) := by
  have h1 : (((s[m / 8]'h).toNat : Int) / 2 ^ (7 - m % 8) % 65536) = (((s[m / 8]'h).toNat / 2 ^ (7 - m % 8) % 65536 : Nat) : Int) := by simp
  rw [h1]
  have h2 := u16_and_nat ((s[m / 8]'h).toNat / 2 ^ (7 - m % 8) % 65536) 1 (by omega) (by omega)
  rw [nat_mask1] at h2
  refine h2.trans ?_
  unfold bit
  have hl : m / 8 < (tx s).length := by rw [tx_len]; exact h
  have e : (((tx s).map (rev 8))[m / 8]?.getD 0) = rev 8 (s[m / 8]'h).toNat := by
    rw [← tx_get h, List.getElem?_map, List.getElem?_eq_getElem hl]
    rfl
  rw [bit_div, bit_le _ _ (Byt.rev8 _) (by rw [List.length_map, tx_len]; omega), e, bit_rev]
  have h8 : m % 8 < 8 := by omega
  simp only [h8, decide_true, Bool.true_and]
  rw [show 8 - 1 - m % 8 = 7 - m % 8 by omega, ← bit_div]
  omega

theorem rev_p16 : rev 16 P16 = 4129 := by decide

end Crc
end Go.Proofs.YtkhkcfbacnkcnaaGreatDoor
/- Words' bytes, and the program's sums of them. -/
namespace Go.Proofs.YtkhkcfbacnkcnaaGreatDoor
open Go.RowKit Go.MapKept
namespace Crc

/-- a word's bytes, the lowest first -/
def wb (x : Nat) : List Nat := (List.range 8).map fun k => x / 256 ^ k % 256

theorem wb_len (x : Nat) : (wb x).length = 8 := by simp [wb]
theorem wb_get {x k : Nat} (h : k < (wb x).length) : (wb x)[k] = x / 256 ^ k % 256 := by simp [wb]
theorem wb_byt (x : Nat) : Byt (wb x) := by
  intro b hb
  obtain ⟨k, _, rfl⟩ := List.mem_map.1 hb
  exact Nat.mod_lt _ (by omega)

/-- these words lie at A -/
structure Wds (w : World) (A : Option Addr) (l : List Nat) : Prop where
  u64 : ∀ x ∈ l, x < 18446744073709551616
  len : l.length ≤ 9223372036854775807
  at' : ∀ j (h : j < l.length), ∃ b o, A = some ⟨b, o, none⟩ ∧ b < w.heap.size ∧ w.cell? ⟨b, o + j, none⟩ = some (.int .u64 (l[j] : Int))

theorem Wds.keep {w w' : World} {A : Option Addr} {l : List Nat} (h : Wds w A l) (hb : Below w.heap.size w w') : Wds w' A l :=
  ⟨h.u64, h.len, fun j hj => by
    obtain ⟨b, o, e, hlt, hc⟩ := h.at' j hj
    exact ⟨b, o, e, Nat.lt_of_lt_of_le hlt hb.size, (hb.cell (p := ⟨b, o + j, none⟩) hlt).trans hc⟩⟩

def wflat (l : List Nat) : List Nat := l.flatMap wb
theorem wflat_take {l : List Nat} {m : Nat} (h : m < l.length) : wflat (l.take (m + 1)) = wflat (l.take m) ++ wb l[m] := by
  unfold wflat
  rw [List.take_succ_eq_append_getElem h, List.flatMap_append]
  simp
theorem wflat_byt (l : List Nat) : Byt (wflat l) := by
  intro b hb
  obtain ⟨q, _, hb⟩ := List.mem_flatMap.1 hb
  exact wb_byt q b hb

section
variable {w : World}
end
end Crc
end Go.Proofs.YtkhkcfbacnkcnaaGreatDoor
/- Bytes as a text; the document's bytes of words; CrcWords. -/
namespace Go.Proofs.YtkhkcfbacnkcnaaGreatDoor
open Go.RowKit Go.MapKept
namespace Crc

theorem ofNat_toNat {b : Nat} (h : b < 256) : (UInt8.ofNat b).toNat = b := by
  rw [UInt8.toNat_ofNat']
  omega

/-- the text of bytes -/
def str (l : List Nat) : ByteArray := ⟨(l.map UInt8.ofNat).toArray⟩
theorem str_size (l : List Nat) : (str l).size = l.length := by
  show ((l.map UInt8.ofNat).toArray).size = _
  rw [List.size_toArray, List.length_map]
theorem tx_str {l : List Nat} (h : Byt l) : tx (str l) = l := by
  unfold tx str
  rw [List.map_map]
  refine (List.map_congr_left (fun b hb => ?_)).trans (List.map_id l)
  exact ofNat_toNat (h b hb)

theorem conv_str {W : World} {A : Option Addr} {l : List Nat} (c : Nat) (h : Bts W A l) : (convert 30 9 (.slice A l.length c)).run Tryz.prog W = .ok (.string (str l)) W := by
  cases A with
  | none =>
    have hl : l = [] := by
      cases l with
      | nil => rfl
      | cons b l =>
        obtain ⟨_, _, e, _⟩ := h.at' 0 (by simp)
        cases e
    subst hl
    exact run_convert_bytes_nil W _ _ Tryz.underlying30 Tryz.underlying5 0 c _ Tryz.underlying9
  | some a =>
    have hr := run_convert_bytes_back (P := Tryz.prog) W 30 9 5 a c (l.map UInt8.ofNat) Tryz.underlying30 Tryz.underlying5 Tryz.underlying9 (fun j hj => by
      rw [List.length_map] at hj
      obtain ⟨b, o, e, _, hc⟩ := h.at' j hj
      injection e with e
      subst e
      rw [Go.WideShapes.add_plain, hc, List.getElem_map, ofNat_toNat (h.byt _ (List.getElem_mem hj))])
    rw [List.length_map] at hr
    exact hr

/-- bytes as cells -/
def u8s (l : List Nat) : List Value := l.map fun b : Nat => Value.int .u8 (b : Int)
theorem u8s_one (l : List Nat) : ∀ u ∈ u8s l, u.oneCell' = true := by
  intro u hu
  obtain ⟨x, _, rfl⟩ := List.mem_map.1 hu
  rfl

theorem own_bts {W : World} {B n c : Nat} {G : Option Addr} {bs : List Nat} (h : W.ownsRow B 5 1 (.slice G n c) n (u8s bs)) (hb : Byt bs) (hm : n ≤ 9223372036854775807) : Bts W G bs := by
  have hl : bs.length = n := by
    have := h.1
    simpa [u8s] using this
  refine ⟨hb, by omega, fun j hj => ?_⟩
  rcases h.2 with ⟨e, h0⟩ | ⟨g, cap, cur, e, _, hh, _, _, _, ht⟩
  · omega
  · injection e with e
    subst e
    refine ⟨g, 0, rfl, (Array.getElem?_eq_some_iff.1 hh).1, ?_⟩
    have := congrArg (·[j]?) ht
    simp only [Nat.mul_one, u8s] at this
    rw [List.getElem?_take, if_pos (by omega), List.getElem?_map, List.getElem?_eq_getElem hj] at this
    unfold World.cell?
    rw [hh, Nat.zero_add]
    simp only
    rw [← Array.getElem?_toList]
    simpa using this

theorem row_slice {B n : Nat} {W : World} {e : TypeId} {v : Value} {xs : List Value} (h : W.ownsRow B e 1 v n xs) : ∃ G c, v = .slice G n c := by
  rcases h.2 with ⟨e, h0⟩ | ⟨g, cap, cur, e, _⟩
  · exact ⟨none, 0, by rw [e, h0]⟩
  · exact ⟨_, _, e⟩
theorem row_base_lt {w : World} {B : Nat} {e : TypeId} {n : Nat} {v : Value} {xs : List Value} (h : w.ownsRow B e 1 v n xs) {g : Nat} (hg : v.ownBlock = some g) : B ≤ g := by
  rcases h.2 with ⟨e, _⟩ | ⟨g', cap, cur, e, hb, hh, _⟩
  · rw [e] at hg; simp [Value.ownBlock] at hg
  · rw [e] at hg
    simp only [Value.ownBlock, Option.some.injEq] at hg
    omega

theorem u8_info : (Tryz.prog.info? 5).map (fun i => (i.zero, i.size, i.bytes)) = some (some (.int .u8 0), 1, 1) := by kernel_rfl

/-- bytes of the call's own -/
def Got (w wr : World) (G : Option Addr) (n gc : Nat) (bs : List Nat) : Prop := wr.ownsRow w.heap.size 5 1 (.slice G n gc) n (u8s bs) ∧ Below w.heap.size w wr

theorem wflat_len (l : List Nat) : (wflat l).length = 8 * l.length := by
  unfold wflat
  induction l with
  | nil => rfl
  | cons x l ih => rw [List.flatMap_cons, List.length_append, ih, wb_len, List.length_cons]; omega

theorem div_pow (x j : Nat) : x / 256 ^ (j + 1) = x / 256 ^ j / 256 := by rw [Nat.pow_succ, Nat.div_div_eq_div_mul]

section
variable {w : World}
end
end Crc
end Go.Proofs.YtkhkcfbacnkcnaaGreatDoor
/- Bytes some bits of which are turned, and that the sums tell it. -/
namespace Go.Proofs.YtkhkcfbacnkcnaaGreatDoor
open Go.RowKit Go.MapKept
namespace Crc

/-- of l the bits from f on are turned that m says, m of i bits -/
structure Trn (l : List Nat) (f i m : Nat) (c : List Nat) : Prop where
  byt : Byt c
  len : c.length = l.length
  lt : m < 2 ^ i
  eq : le c = le l ^^^ m * 2 ^ f
  zero : m = 0 → c = l

theorem Trn.refl {l : List Nat} (h : Byt l) (f : Nat) : Trn l f 0 0 l := ⟨h, rfl, by simp, by simp, fun _ => rfl⟩
theorem Trn.skip {l c : List Nat} {f i m : Nat} (h : Trn l f i m c) : Trn l f (i + 1) m c := ⟨h.byt, h.len, by have := h.lt; rw [Nat.pow_succ]; omega, h.eq, h.zero⟩

theorem xor_shift (m i f : Nat) : (m ^^^ 2 ^ i) * 2 ^ f = m * 2 ^ f ^^^ 2 ^ (f + i) := by
  apply Nat.eq_of_testBit_eq
  intro j
  rw [Nat.pow_add, Nat.mul_comm (2 ^ f) (2 ^ i)]
  simp only [Nat.testBit_xor, Nat.testBit_mul_two_pow]
  by_cases h : f ≤ j <;> simp [h]

theorem bit_in {m i : Nat} (h : m < 2 ^ i) : m ^^^ 2 ^ i ≠ 0 ∧ m ^^^ 2 ^ i < 2 ^ (i + 1) := by
  constructor
  · intro h0
    have : (m ^^^ 2 ^ i).testBit i = true := by
      rw [Nat.testBit_xor, Nat.testBit_lt_two_pow h, Nat.testBit_two_pow_self]
      rfl
    rw [h0] at this
    simp at this
  · refine Nat.xor_lt_two_pow ?_ ?_
    · rw [Nat.pow_succ]; omega
    · exact Nat.pow_lt_pow_right (by omega) (by omega)

theorem Byt.set {l : List Nat} (h : Byt l) (j : Nat) {x : Nat} (hx : x < 256) : Byt (l.set j x) := fun b hb => by
  rcases List.mem_or_eq_of_mem_set hb with h1 | h1
  · exact h b h1
  · omega

theorem xor_bit_lt {x t : Nat} (hx : x < 256) (ht : t < 8) : x ^^^ 2 ^ t < 256 := Nat.xor_lt_two_pow (n := 8) hx (Nat.pow_lt_pow_right (by omega) ht)

theorem get_byt {l : List Nat} (h : Byt l) (j : Nat) : l[j]?.getD 0 < 256 := by
  rcases Nat.lt_or_ge j l.length with h1 | h1
  · rw [List.getElem?_eq_getElem h1]
    exact h _ (List.getElem_mem h1)
  · rw [List.getElem?_eq_none h1]
    simp

/-- one bit more -/
theorem Trn.turn {l c : List Nat} {f i m : Nat} (h : Trn l f i m c) (hk : (f + i) / 8 < l.length) : Trn l f (i + 1) (m ^^^ 2 ^ i) (c.set ((f + i) / 8) (c[(f + i) / 8]?.getD 0 ^^^ 2 ^ ((f + i) % 8))) := by
  have hb := bit_in h.lt
  have ht : (f + i) % 8 < 8 := Nat.mod_lt _ (by omega)
  refine ⟨h.byt.set _ (xor_bit_lt (get_byt h.byt _) ht), by rw [List.length_set]; exact h.len, hb.2, ?_, fun h0 => absurd h0 hb.1⟩
  rw [le_set c _ _ h.byt (by rw [h.len]; exact hk) ht, h.eq, Nat.xor_assoc, xor_shift]
  congr 2
  congr 1
  omega

theorem Trn.told32 {l c : List Nat} {f i m : Nat} (h : Trn l f i m c) (hl : Byt l) (hi : i ≤ 32) (hf : f ≤ 8 * l.length) (h0 : m ≠ 0) : S32 c ≠ S32 l := by
  have hm : m < 2 ^ (31 + 1) := Nat.lt_of_lt_of_le h.lt (Nat.pow_le_pow_right (by omega) hi)
  have := burst (p := P32) (w := 31) (by decide) (by decide) 4294967295 f m l c hl h.byt h.len hm h0 hf h.eq
  have h1 := sm32_lt c 4294967295 (by omega) h.byt
  have h2 := sm32_lt l 4294967295 (by omega) hl
  unfold S32
  omega

theorem Trn.told16 {l d : List Nat} {f i m : Nat} (h : Trn (l.map (rev 8)) f i m (d.map (rev 8))) (hi : i ≤ 16) (hf : f ≤ 8 * l.length) (h0 : m ≠ 0) : S16 d ≠ S16 l := by
  have hm : m < 2 ^ (15 + 1) := Nat.lt_of_lt_of_le h.lt (Nat.pow_le_pow_right (by omega) hi)
  have hb := burst (p := P16) (w := 15) (by decide) (by decide) 65535 f m (l.map (rev 8)) (d.map (rev 8)) (Byt.rev8 l) h.byt h.len hm h0 (by rw [List.length_map]; exact hf) h.eq
  intro e
  exact hb (rev_inj (w := 16) (sm16_lt _ _ (by omega) (Byt.rev8 d)) (sm16_lt _ _ (by omega) (Byt.rev8 l)) e)

theorem map_set_rev (d : List Nat) (j t : Nat) (ht : t < 8) : (d.set j (d[j]?.getD 0 ^^^ 2 ^ (7 - t))).map (rev 8) = (d.map (rev 8)).set j ((d.map (rev 8))[j]?.getD 0 ^^^ 2 ^ t) := by
  rw [List.map_set, rev_turn ht]
  congr 2
  rw [List.getElem?_map]
  cases d[j]? with
  | none => decide
  | some x => rfl

theorem map_rev_inj {l d : List Nat} (hl : Byt l) (hd : Byt d) (h : d.map (rev 8) = l.map (rev 8)) : d = l := by
  have hlen : d.length = l.length := by
    have := congrArg List.length h
    simpa using this
  refine List.ext_getElem hlen (fun j h1 h2 => ?_)
  have := congrArg (·[j]?) h
  simp only [List.getElem?_map, List.getElem?_eq_getElem h1, List.getElem?_eq_getElem h2, Option.map_some, Option.some.injEq] at this
  exact rev_inj (w := 8) (hd _ (List.getElem_mem h1)) (hl _ (List.getElem_mem h2)) this

theorem str_inj {l c : List Nat} (hl : Byt l) (hc : Byt c) (h : str c = str l) : c = l := by
  rw [← tx_str hl, ← tx_str hc, h]
end Crc
end Go.Proofs.YtkhkcfbacnkcnaaGreatDoor
/- An entry's bytes as a list of numbers, whether an entry may be, and whose bytes they are. -/
namespace Go.Proofs.YtkhkcfbacnkcnaaGreatDoor
open Go.RowKit Go.MapKept
namespace Ent

/-- it is a name -/
def Right (l : List Nat) : Prop := (1 ≤ l.length ∧ l.length ≤ 48) ∧ l ≠ [46] ∧ l ≠ [46, 46] ∧ ∀ x ∈ l, x ≠ 0 ∧ x ≠ 47
instance (l : List Nat) : Decidable (Right l) := by unfold Right; infer_instance
def right (l : List Nat) : Bool := decide (Right l)
theorem right_iff {l : List Nat} : right l = true ↔ Right l := decide_eq_true_iff
theorem right_no {l : List Nat} (h : ¬ Right l) : right l = false := decide_eq_false h

/-- it may be -/
def may (l : List Nat) (i : Int) : Bool := right l && decide (0 ≤ i ∧ i ≤ 65533)
theorem may_iff {l : List Nat} {i : Int} : may l i = true ↔ Right l ∧ 0 ≤ i ∧ i ≤ 65533 := by
  unfold may
  rw [Bool.and_eq_true, right_iff, decide_eq_true_iff]

/-- a number's four bytes -/
def q4 (x : Nat) : List Nat := [x % 256, x / 256 % 256, x / 65536 % 256, x / 16777216 % 256]
/-- the 60 bytes that are summed -/
def front (l : List Nat) (i : Nat) : List Nat := [i % 256, i / 256 % 256, l.length, 0] ++ l ++ List.replicate (56 - l.length) 0
/-- the bytes -/
def enc (l : List Nat) (i : Nat) : List Nat := front l i ++ q4 (Crc.S32 (front l i))

theorem s32_lt (l : List Nat) : Crc.S32 l < 4294967296 := by
  unfold Crc.S32
  omega

theorem front_len {l : List Nat} (h : l.length ≤ 48) (i : Nat) : (front l i).length = 60 := by
  unfold front
  simp
  omega
theorem q4_len (x : Nat) : (q4 x).length = 4 := rfl
theorem enc_len {l : List Nat} (h : l.length ≤ 48) (i : Nat) : (enc l i).length = 64 := by
  unfold enc
  rw [List.length_append, front_len h, q4_len]
theorem q4_byt (x : Nat) : Crc.Byt (q4 x) := by
  intro b hb
  simp only [q4, List.mem_cons, List.not_mem_nil, or_false] at hb
  omega
theorem front_byt {l : List Nat} (hl : Crc.Byt l) (h : l.length ≤ 48) (i : Nat) : Crc.Byt (front l i) := by
  intro b hb
  unfold front at hb
  simp only [List.mem_append, List.mem_cons, List.not_mem_nil, or_false, List.mem_replicate] at hb
  rcases hb with (hb | hb) | hb
  · omega
  · exact hl b hb
  · omega
theorem enc_byt {l : List Nat} (hl : Crc.Byt l) (h : l.length ≤ 48) (i : Nat) : Crc.Byt (enc l i) := (front_byt hl h i).append (q4_byt _)

/-- the name that bytes tell -/
def name (b : List Nat) : List Nat := (b.drop 4).take (b[2]?.getD 0)
/-- the number that bytes tell -/
def num (b : List Nat) : Nat := b[0]?.getD 0 + 256 * b[1]?.getD 0

theorem enc_cons (l : List Nat) (i : Nat) : enc l i = i % 256 :: i / 256 % 256 :: l.length :: 0 :: (l ++ (List.replicate (56 - l.length) 0 ++ q4 (Crc.S32 (front l i)))) := by
  unfold enc
  conv => lhs; arg 1; unfold front
  simp
theorem name_enc (l : List Nat) (i : Nat) : name (enc l i) = l := by
  unfold name
  rw [enc_cons]
  simp
theorem num_enc (l : List Nat) {i : Nat} (h : i < 65536) : num (enc l i) = i := by
  unfold num
  rw [enc_cons]
  simp
  omega
theorem len_enc (l : List Nat) (i : Nat) : (enc l i)[2]?.getD 0 = l.length := by
  rw [enc_cons]
  rfl

/-- whose they are -/
def dec (b : List Nat) : Option (List Nat × Nat) :=
  if b.length = 64 ∧ b[2]?.getD 0 ≤ 48 ∧ may (name b) (num b : Nat) = true ∧ b = enc (name b) (num b) then some (name b, num b) else none

theorem may_len {l : List Nat} {i : Int} (h : may l i = true) : l.length ≤ 48 := (may_iff.1 h).1.1.2
theorem may_nat {l : List Nat} {i : Int} (h : may l i = true) : ∃ k : Nat, i = (k : Int) ∧ k ≤ 65533 := by
  have := may_iff.1 h
  obtain ⟨k, rfl⟩ := Int.eq_ofNat_of_zero_le this.2.1
  exact ⟨k, rfl, by omega⟩

theorem dec_enc {l : List Nat} {i : Nat} (h : may l (i : Int) = true) : dec (enc l i) = some (l, i) := by
  have h1 := may_len h
  obtain ⟨k, e, hk⟩ := may_nat h
  have h2 : i < 65536 := by omega
  unfold dec
  rw [name_enc, num_enc l h2, len_enc]
  exact if_pos ⟨enc_len h1 i, h1, h, rfl⟩

theorem dec_some {b l : List Nat} {i : Nat} (h : dec b = some (l, i)) : may l (i : Int) = true ∧ b = enc l i := by
  unfold dec at h
  split at h
  · rename_i hc
    injection h with h
    injection h with h1 h2
    subst h1 h2
    exact hc.2.2
  · cases h

/-- what is no bytes of one that may be -/
theorem dec_none {b : List Nat} (h : ∀ (l : List Nat) (i : Nat), may l (i : Int) = true → b ≠ enc l i) : dec b = none := by
  cases e : dec b with
  | none => rfl
  | some q =>
    obtain ⟨l, i⟩ := q
    have := dec_some e
    exact absurd this.2 (h l i this.1)

/-- the text of a text's bytes -/
theorem str_tx (s : ByteArray) : Crc.str (Crc.tx s) = s := by
  unfold Crc.str Crc.tx
  rw [List.map_map]
  have e : (UInt8.ofNat ∘ UInt8.toNat) = id := by
    funext x
    simp
  rw [e, List.map_id]
end Ent
end Go.Proofs.YtkhkcfbacnkcnaaGreatDoor
/- Right and May, the program's and the document's. -/
namespace Go.Proofs.YtkhkcfbacnkcnaaGreatDoor
open Go.RowKit Go.MapKept
namespace Ent

theorem tx_toList (s : ByteArray) : Crc.tx s = s.toList.map UInt8.toNat := by
  obtain ⟨a⟩ := s
  obtain ⟨l⟩ := a
  rw [ByteArray.toList_mk]
  rfl
theorem map_inj {l m : List UInt8} (h : l.map UInt8.toNat = m.map UInt8.toNat) : l = m := by
  induction l generalizing m with
  | nil => cases m with
    | nil => rfl
    | cons => simp at h
  | cons a l ih =>
    cases m with
    | nil => simp at h
    | cons b m =>
      simp only [List.map_cons, List.cons.injEq] at h
      rw [ih h.2, UInt8.toNat_inj.1 h.1]
theorem tx_eq {s : ByteArray} {l : List UInt8} : s.toList = l ↔ Crc.tx s = l.map UInt8.toNat := by
  rw [tx_toList]
  exact ⟨fun h => by rw [h], map_inj⟩

/-- as far as m no byte is wrong -/
def Good (s : ByteArray) (m : Nat) : Prop := ∀ j (h : j < s.size), j < m → (s[j]'h).toNat ≠ 0 ∧ (s[j]'h).toNat ≠ 47
theorem Good.next {s : ByteArray} {m : Nat} (h : Good s m) (hm : m < s.size) (h0 : (s[m]'hm).toNat ≠ 0) (h1 : (s[m]'hm).toNat ≠ 47) : Good s (m + 1) := by
  intro j hj hlt
  rcases Nat.lt_or_ge j m with h2 | h2
  · exact h j hj h2
  · obtain rfl : j = m := by omega
    exact ⟨h0, h1⟩
theorem Good.all {s : ByteArray} (h : Good s s.size) : ∀ x ∈ Crc.tx s, x ≠ 0 ∧ x ≠ 47 := by
  intro x hx
  obtain ⟨j, hj, rfl⟩ := List.getElem_of_mem hx
  have hj' : j < s.size := by rw [Crc.tx_len] at hj; exact hj
  have := Crc.tx_get hj'
  rw [List.getElem?_eq_getElem hj, Option.getD_some] at this
  rw [this]
  exact h j hj' hj'
theorem bad_byte {s : ByteArray} {m : Nat} (hm : m < s.size) (h : (s[m]'hm).toNat = 0 ∨ (s[m]'hm).toNat = 47) : ¬ Right (Crc.tx s) := by
  intro hr
  have hj : m < (Crc.tx s).length := by rw [Crc.tx_len]; exact hm
  have := hr.2.2.2 ((Crc.tx s)[m]'hj) (List.getElem_mem hj)
  have e := Crc.tx_get hm
  rw [List.getElem?_eq_getElem hj, Option.getD_some] at e
  rw [e] at this
  omega

theorem no_right {s : ByteArray} (h : s.size < 1 ∨ 48 < s.size ∨ s.toList = [46] ∨ s.toList = [46, 46]) : ¬ Right (Crc.tx s) := by
  intro hr
  have hl := hr.1
  rw [Crc.tx_len] at hl
  rcases h with h | h | h | h
  · omega
  · omega
  · exact hr.2.1 (tx_eq.1 h)
  · exact hr.2.2.1 (tx_eq.1 h)

set_option maxHeartbeats 1000000 in
theorem right_any (w : World) (s : ByteArray) (hs : s.size ≤ 9223372036854775807) :
    Calls Tryz.prog 98 #[.string s] w fun r w' => r = .returned (.bool (right (Crc.tx s))) ∧ w = w' := by
  by_cases h : s.size < 1 ∨ 48 < s.size ∨ s.toList = [46] ∨ s.toList = [46, 46]
  · have HN := Lib.hid (right_no (no_right h))
    go_enter Tryz.func98, Tryz.ntmps98
    rcases h with h | h | h | h
    all_goals go_wp2
    all_goals go_ret
    all_goals exact ⟨by rw [HN.out]; rfl, rfl⟩
  · have h1 : 1 ≤ s.size := by omega
    have h2 : s.size ≤ 48 := by omega
    have h3 : (s.toList == [46]) = false := by simpa using fun e => h (.inr (.inr (.inl e)))
    have h4 : (s.toList == [46, 46]) = false := by simpa using fun e => h (.inr (.inr (.inr e)))
    have h5 : ¬ s.toList = [46] := fun e => h (.inr (.inr (.inl e)))
    have h6 : ¬ s.toList = [46, 46] := fun e => h (.inr (.inr (.inr e)))
    clear h
    go_enter Tryz.func98, Tryz.ntmps98
    go_wp2
    go_loopw [22] (fun i wr => ∃ m : Nat, m ≤ s.size ∧ i = .int .i64 (m : Int) ∧ w = wr ∧ Good s m) (fun i _ => s.size - (intOf i).toNat)
    case atStart => exact ⟨0, Nat.zero_le _, rfl, rfl, fun j _ h => absurd h (by omega)⟩
    case round =>
      obtain ⟨m, hm, rfl, rfl, hg⟩ := hrel
      have HG := Lib.hid hg
      clear hg
      by_cases hlt : m < s.size
      · go_wp2
        · rename_i hx
          go_ret
          exact ⟨by rw [right_no (bad_byte hlt (.inl hx))]; rfl, rfl⟩
        · rename_i hx
          go_ret
          exact ⟨by rw [right_no (bad_byte hlt (by simp at hx; omega))]; rfl, rfl⟩
        · rename_i hx
          exact ⟨⟨m + 1, by omega, by go_num, trivial, HG.out.next hlt (by simp at hx; omega) (by simp at hx; omega)⟩, by simp [intOf]; omega⟩
      · obtain rfl : m = s.size := by omega
        have HR := Lib.hid (right_iff.2 ⟨⟨by rw [Crc.tx_len]; exact h1, by rw [Crc.tx_len]; exact h2⟩, fun e => h5 (tx_eq.2 e), fun e => h6 (tx_eq.2 e), HG.out.all⟩)
        go_wp2
        go_ret
        exact ⟨by rw [HR.out]; rfl, rfl⟩

set_option maxHeartbeats 1000000 in
theorem refRight_any (w : World) (s : ByteArray) (hs : s.size ≤ 9223372036854775807) :
    Calls Tryz.prog 81 #[.string s] w fun r w' => r = .returned (.bool (right (Crc.tx s))) ∧ w = w' := by
  by_cases h : s.size < 1 ∨ 48 < s.size ∨ s.toList = [46] ∨ s.toList = [46, 46]
  · have HN := Lib.hid (right_no (no_right h))
    go_enter Tryz.func81, Tryz.ntmps81
    rcases h with h | h | h | h
    · have h' : s.toList = [] := tx_eq.2 (List.length_eq_zero_iff.1 (by rw [Crc.tx_len]; omega))
      go_wp2
      go_ret
      exact ⟨by rw [HN.out]; rfl, rfl⟩
    all_goals go_wp2
    all_goals go_ret
    all_goals exact ⟨by rw [HN.out]; rfl, rfl⟩
  · have h1 : 1 ≤ s.size := by omega
    have h2 : s.size ≤ 48 := by omega
    have h3 : (s.toList == [46]) = false := by simpa using fun e => h (.inr (.inr (.inl e)))
    have h4 : (s.toList == [46, 46]) = false := by simpa using fun e => h (.inr (.inr (.inr e)))
    have h5 : ¬ s.toList = [46] := fun e => h (.inr (.inr (.inl e)))
    have h6 : ¬ s.toList = [46, 46] := fun e => h (.inr (.inr (.inr e)))
    have h7 : ¬ s.toList = [] := fun e => by
      have := tx_eq.1 e
      have h8 := Crc.tx_len s
      rw [this] at h8
      simp at h8
      omega
    have h8 : (s.toList == []) = false := by simpa using h7
    clear h
    go_enter Tryz.func81, Tryz.ntmps81
    go_wp2
    go_loopw [3] (fun i wr => ∃ m : Nat, m ≤ s.size ∧ i = .int .i64 (m : Int) ∧ w = wr ∧ Good s m) (fun i _ => s.size - (intOf i).toNat)
    case atStart => exact ⟨0, Nat.zero_le _, rfl, rfl, fun j _ h => absurd h (by omega)⟩
    case round =>
      obtain ⟨m, hm, rfl, rfl, hg⟩ := hrel
      have HG := Lib.hid hg
      clear hg
      by_cases hlt : m < s.size
      · go_wp2
        · rename_i hx
          go_ret
          exact ⟨by rw [right_no (bad_byte hlt (.inl hx))]; rfl, rfl⟩
        · rename_i hx
          go_ret
          exact ⟨by rw [right_no (bad_byte hlt (by simp at hx; omega))]; rfl, rfl⟩
        · rename_i hx
          exact ⟨⟨m + 1, by omega, by go_num, trivial, HG.out.next hlt (by simp at hx; omega) (by simp at hx; omega)⟩, by simp [intOf]; omega⟩
      · obtain rfl : m = s.size := by omega
        have HR := Lib.hid (right_iff.2 ⟨⟨by rw [Crc.tx_len]; exact h1, by rw [Crc.tx_len]; exact h2⟩, fun e => h5 (tx_eq.2 e), fun e => h6 (tx_eq.2 e), HG.out.all⟩)
        go_wp2
        go_ret
        exact ⟨by rw [HR.out]; rfl, rfl⟩
end Ent
end Go.Proofs.YtkhkcfbacnkcnaaGreatDoor
/- Which of two paths stands ahead: of no program. -/
namespace Go.Proofs.YtkhkcfbacnkcnaaGreatDoor
open Go.RowKit Go.MapKept
namespace Pat

theorem bl_irr : ∀ l : List UInt8, Op.bytesLess l l = false
  | [] => rfl
  | a :: x => by
    rw [Op.bytesLess, bl_irr x]
    simp
theorem bl_tot : ∀ l m : List UInt8, l ≠ m → Op.bytesLess l m = !Op.bytesLess m l
  | [], [], h => absurd rfl h
  | [], _ :: _, _ => rfl
  | _ :: _, [], _ => rfl
  | a :: x, b :: y, h => by
    rw [Op.bytesLess, Op.bytesLess]
    by_cases e : a = b
    · subst e
      have hx : x ≠ y := fun e => h (by rw [e])
      rw [bl_tot x y hx]
      simp
    · have h1 : (a == b) = false := by simpa using e
      have h2 : (b == a) = false := by simpa using fun e' => e e'.symm
      rw [h1, h2]
      simp only [Bool.false_and, Bool.or_false]
      have hne : a.toNat ≠ b.toNat := fun h => e (UInt8.toNat_inj.1 h)
      by_cases h3 : a < b
      · have h4 : ¬ b < a := by rw [UInt8.lt_iff_toNat_lt] at *; omega
        simp [h3, h4]
      · have h4 : b < a := by rw [UInt8.lt_iff_toNat_lt] at *; omega
        simp [h3, h4]

/-- is one name ahead of another one? -/
def less (a b : ByteArray) : Bool := Op.bytesLess a.toList b.toList
theorem toList_inj {a b : ByteArray} (h : a.toList = b.toList) : a = b := by
  have h1 := Ent.tx_toList a
  have h2 := Ent.tx_toList b
  rw [h, ← h2] at h1
  rw [← Ent.str_tx a, ← Ent.str_tx b, h1]
theorem less_irr (a : ByteArray) : less a a = false := bl_irr _
theorem less_tot {a b : ByteArray} (h : a ≠ b) : less a b = !less b a := bl_tot _ _ (fun e => h (toList_inj e))

/-- is one path ahead of another one? -/
def bef : List ByteArray → List ByteArray → Bool
  | _, [] => false
  | [], _ :: _ => true
  | a :: x, b :: y => if a = b then bef x y else less a b
/-- 0: the same; below: the first is ahead -/
def cmpL : List ByteArray → List ByteArray → Int
  | [], [] => 0
  | _ :: _, [] => 1
  | [], _ :: _ => -1
  | a :: x, b :: y => if a = b then cmpL x y else if less a b then -1 else 1

theorem cmpL_bef : ∀ x y, decide (cmpL x y < 0) = bef x y
  | [], [] => rfl
  | _ :: _, [] => rfl
  | [], _ :: _ => rfl
  | a :: x, b :: y => by
    rw [cmpL, bef]
    split
    · exact cmpL_bef x y
    · split
      · rename_i h; rw [h]; rfl
      · rename_i h; rw [Bool.not_eq_true] at h; rw [h]; rfl
theorem bef_irr : ∀ x, bef x x = false
  | [] => rfl
  | a :: x => by rw [bef, if_pos rfl, bef_irr x]
theorem bef_tot : ∀ x y, x ≠ y → bef x y = !bef y x
  | [], [], h => absurd rfl h
  | [], _ :: _, _ => rfl
  | _ :: _, [], _ => rfl
  | a :: x, b :: y, h => by
    rw [bef, bef]
    by_cases e : a = b
    · subst e
      rw [if_pos rfl, if_pos rfl]
      exact bef_tot x y (fun e => h (by rw [e]))
    · rw [if_neg e, if_neg (fun e' => e e'.symm)]
      exact less_tot e
theorem bef_asym {x y : List ByteArray} (h : bef x y = true) : bef y x = false := by
  by_cases e : x = y
  · subst e; rw [bef_irr] at h; cases h
  · rw [bef_tot x y e] at h; simpa using h
theorem bef_one {x y : List ByteArray} (h : bef x y = false) (h' : bef y x = false) : x = y := by
  by_cases e : x = y
  · exact e
  · rw [bef_tot x y e, h'] at h; cases h
theorem bef_kid : ∀ (l : List ByteArray) (n : ByteArray), bef l (l ++ [n]) = true
  | [], _ => rfl
  | a :: x, n => by rw [List.cons_append, bef, if_pos rfl, bef_kid x n]
theorem bef_past : ∀ (l o : List ByteArray) (n : ByteArray), bef l o = true → o.take l.length ≠ l → bef (l ++ [n]) o = true
  | [], o, _, _, h => absurd (by simp) h
  | a :: x, [], _, h, _ => by rw [bef] at h; cases h
  | a :: x, b :: y, n, h, h' => by
    rw [bef] at h
    rw [List.cons_append, bef]
    by_cases e : a = b
    · subst e
      rw [if_pos rfl] at h ⊢
      exact bef_past x y n h (fun e => h' (by rw [List.length_cons, List.take_succ_cons, e]))
    · rw [if_neg e] at h ⊢
      exact h

/-! As far as k both are the same. -/
theorem drop_cons {x : List ByteArray} {k : Nat} (h : k < x.length) : x.drop k = x[k] :: x.drop (k + 1) := List.drop_eq_getElem_cons h
theorem drop_end {x : List ByteArray} {k : Nat} (h : x.length ≤ k) : x.drop k = [] := List.drop_eq_nil_of_le h
theorem bef_same {x y : List ByteArray} {k : Nat} (h : k < x.length) (h' : k < y.length) (e : x[k] = y[k]) : bef (x.drop k) (y.drop k) = bef (x.drop (k + 1)) (y.drop (k + 1)) := by
  rw [drop_cons h, drop_cons h', bef, if_pos e]
theorem bef_diff {x y : List ByteArray} {k : Nat} (h : k < x.length) (h' : k < y.length) (e : x[k] ≠ y[k]) : bef (x.drop k) (y.drop k) = less x[k] y[k] := by
  rw [drop_cons h, drop_cons h', bef, if_neg e]
theorem bef_end {x y : List ByteArray} {k : Nat} (h : y.length ≤ k) : bef (x.drop k) (y.drop k) = false := by
  rw [drop_end h]
  cases x.drop k <;> rfl
theorem bef_over {x y : List ByteArray} (h : x.length ≤ y.length) : bef (x.drop x.length) (y.drop x.length) = decide (x.length < y.length) := by
  rw [List.drop_length]
  by_cases e : x.length < y.length
  · rw [drop_cons e, bef, decide_eq_true e]
  · rw [drop_end (by omega), bef, decide_eq_false e]
theorem cmp_same {x y : List ByteArray} {k : Nat} (h : k < x.length) (h' : k < y.length) (e : x[k] = y[k]) : cmpL (x.drop k) (y.drop k) = cmpL (x.drop (k + 1)) (y.drop (k + 1)) := by
  rw [drop_cons h, drop_cons h', cmpL, if_pos e]
theorem cmp_diff {x y : List ByteArray} {k : Nat} (h : k < x.length) (h' : k < y.length) (e : x[k] ≠ y[k]) : cmpL (x.drop k) (y.drop k) = if less x[k] y[k] then -1 else 1 := by
  rw [drop_cons h, drop_cons h', cmpL, if_neg e]
theorem cmp_end {x y : List ByteArray} {k : Nat} (h : k < x.length) (h' : y.length ≤ k) : cmpL (x.drop k) (y.drop k) = 1 := by
  rw [drop_cons h, drop_end h', cmpL]
theorem cmp_over {x y : List ByteArray} (h : x.length ≤ y.length) : cmpL (x.drop x.length) (y.drop x.length) = if x.length < y.length then -1 else 0 := by
  rw [List.drop_length]
  by_cases e : x.length < y.length
  · rw [drop_cons e, cmpL, if_pos e]
  · rw [drop_end (by omega), cmpL, if_neg e]
theorem take_same {x y : List ByteArray} {k : Nat} (h : k < x.length) (h' : k < y.length) (e : x[k] = y[k]) (ht : x.take k = y.take k) : x.take (k + 1) = y.take (k + 1) := by
  rw [List.take_succ_eq_append_getElem h, List.take_succ_eq_append_getElem h', e, ht]
end Pat
end Go.Proofs.YtkhkcfbacnkcnaaGreatDoor
/- The document's tree as a row of things: where one stands, what going to names tells, a directory's names, the order. Of no program. -/
namespace Go.Proofs.YtkhkcfbacnkcnaaGreatDoor
open Go.RowKit Go.MapKept
namespace Tre

abbrev Nm := List ByteArray
/-- a thing: its names, whether it is a directory, its bytes -/
abbrev Th := Nm × Bool × ByteArray

/-- where a thing with these names stands -/
def fi (t : List Th) (n : Nm) : Option Nat := t.findIdx? (fun x => decide (x.1 = n))
/-- as the document tells it -/
def fv (t : List Th) (n : Nm) : Int := match fi t n with | some i => (i : Int) | none => -1
theorem fi_some {t : List Th} {n : Nm} {i : Nat} (h : fi t n = some i) : ∃ h : i < t.length, t[i].1 = n ∧ ∀ j (hj : j < i), (t[j]'(by omega)).1 ≠ n := by
  unfold fi at h
  rw [List.findIdx?_eq_some_iff_getElem] at h
  obtain ⟨h1, h2, h3⟩ := h
  exact ⟨h1, by simpa using h2, fun j hj => by simpa using h3 j hj⟩
theorem fi_at {t : List Th} {n : Nm} {i : Nat} (h : i < t.length) (e : t[i].1 = n) (hj : ∀ j (h' : j < i), (t[j]'(by omega)).1 ≠ n) : fi t n = some i := by
  unfold fi
  rw [List.findIdx?_eq_some_iff_getElem]
  exact ⟨h, by simpa using e, fun j h' => by simpa using hj j h'⟩
theorem fi_none {t : List Th} {n : Nm} (h : ∀ j (hj : j < t.length), t[j].1 ≠ n) : fi t n = none := by
  unfold fi
  rw [List.findIdx?_eq_none_iff]
  intro x hx
  obtain ⟨j, hj, rfl⟩ := List.getElem_of_mem hx
  simpa using h j hj

/-- is the thing at i a directory? -/
def isDirAt (t : List Th) (i : Nat) : Bool := match t[i]? with | some x => x.2.1 | none => false
/-- is it a directory (the root is)? -/
def dirT (t : List Th) (n : Nm) : Bool := if n = [] then true else match fi t n with | some i => isDirAt t i | none => false

/-- what going to names tells from the n-th on -/
def goF (t : List Th) (n : Nm) : Nat → Nat → Int
  | 0, _ => 0
  | f + 1, k => match fi t (n.take k) with
    | none => 4
    | some i => if k < n.length ∧ isDirAt t i = false then 6 else goF t n f (k + 1)
def goT (t : List Th) (n : Nm) : Int := goF t n n.length 1
end Tre
end Go.Proofs.YtkhkcfbacnkcnaaGreatDoor
/- A text cut at each 47, names put together to a path: of no program. -/
namespace Go.Proofs.YtkhkcfbacnkcnaaGreatDoor
open Go.RowKit Go.MapKept
namespace Pat

/-- a piece's bytes ahead of the first one's -/
def glue (x : List UInt8) : List (List UInt8) → List (List UInt8)
  | [] => [x]
  | p :: ps => (x ++ p) :: ps
/-- cut at each 47 -/
def cut : List UInt8 → List (List UInt8)
  | [] => [[]]
  | b :: l => if b = 47 then [] :: cut l else glue [b] (cut l)
theorem glue_glue (x y : List UInt8) (c : List (List UInt8)) : glue x (glue y c) = glue (x ++ y) c := by
  cases c <;> simp [glue]
theorem glue_none {c : List (List UInt8)} (h : c ≠ []) : glue [] c = c := by
  cases c with
  | nil => exact absurd rfl h
  | cons => rfl
theorem glue_len (x : List UInt8) {c : List (List UInt8)} (h : c ≠ []) : (glue x c).length = c.length := by
  cases c with
  | nil => exact absurd rfl h
  | cons => rfl
theorem cut_ne : ∀ l, cut l ≠ []
  | [] => by simp [cut]
  | b :: l => by
    rw [cut]
    split
    · simp
    · cases cut l <;> simp [glue]
theorem cut_len : ∀ l, (cut l).length ≤ l.length + 1
  | [] => by simp [cut]
  | b :: l => by
    have := cut_len l
    rw [cut]
    split
    · simp; omega
    · rw [glue_len _ (cut_ne l)]; simp; omega

/-- where the first 47 stands -/
theorem cut_at : ∀ l, (Lib.indexByte l 47 = -1 → cut l = [l]) ∧ ∀ i : Nat, Lib.indexByte l 47 = (i : Int) → cut l = l.take i :: cut (l.drop (i + 1))
  | [] => ⟨fun _ => rfl, fun i h => by
    rw [Lib.indexByte] at h
    omega⟩
  | b :: l => by
    obtain ⟨h1, h2⟩ := cut_at l
    have hge := Lib.indexByte_ge l 47
    rw [cut, Lib.indexByte]
    by_cases hb : b = 47
    · subst hb
      rw [if_pos rfl, if_pos (by simp)]
      refine ⟨fun h => by omega, fun i h => ?_⟩
      obtain rfl : i = 0 := by omega
      simp
    · rw [if_neg hb, if_neg (by simpa using hb)]
      by_cases hm : Lib.indexByte l 47 = -1
      · rw [hm, if_pos (by simp), h1 hm]
        exact ⟨fun _ => rfl, fun i h => by omega⟩
      · rw [if_neg (by simpa using hm)]
        refine ⟨fun h => by omega, fun i h => ?_⟩
        obtain ⟨j, rfl⟩ : ∃ j, i = j + 1 := ⟨i - 1, by omega⟩
        rw [h2 j (by omega)]
        simp [glue]
theorem splitK_few : ∀ (k : Nat) (l : List UInt8), (cut l).length ≤ k + 1 → Lib.splitK [47] 0 k l = cut l
  | 0, l, h => by
    rw [Lib.splitK]
    rcases Int.lt_or_le (Lib.indexByte l 47) 0 with hi | hi
    · have := Lib.indexByte_ge l 47
      rw [(cut_at l).1 (by omega)]
    · obtain ⟨i, hi⟩ := Int.eq_ofNat_of_zero_le hi
      rw [(cut_at l).2 i hi] at h
      have := cut_ne (l.drop (i + 1))
      have := List.length_pos_iff.2 this
      rw [List.length_cons] at h
      omega
  | k + 1, l, h => by
    rw [Lib.splitK, Lib.index_one]
    rcases Int.lt_or_le (Lib.indexByte l 47) 0 with hi | hi
    · have := Lib.indexByte_ge l 47
      have hm : Lib.indexByte l 47 = -1 := by omega
      rw [hm, if_pos (by decide), (cut_at l).1 hm]
    · obtain ⟨i, hi⟩ := Int.eq_ofNat_of_zero_le hi
      have hc := (cut_at l).2 i hi
      rw [hc] at h
      rw [hi, if_neg (by simp), hc, splitK_few k _ (by simp at h ⊢; omega)]
      simp
theorem splitK_many : ∀ (k : Nat) (l : List UInt8), k + 1 ≤ (cut l).length → (Lib.splitK [47] 0 k l).length = k + 1
  | 0, l, _ => rfl
  | k + 1, l, h => by
    rw [Lib.splitK, Lib.index_one]
    rcases Int.lt_or_le (Lib.indexByte l 47) 0 with hi | hi
    · have := Lib.indexByte_ge l 47
      rw [(cut_at l).1 (by omega)] at h
      simp at h
    · obtain ⟨i, hi⟩ := Int.eq_ofNat_of_zero_le hi
      rw [(cut_at l).2 i hi] at h
      rw [hi, if_neg (by simp), List.length_cons]
      have := splitK_many k (l.drop (i + 1)) (by simp at h; omega)
      simpa using this

/-- the text of bytes -/
abbrev mk (l : List UInt8) : ByteArray := ⟨l.toArray⟩
theorem mk_data (s : ByteArray) : mk s.data.toList = s := rfl
theorem data_mk (l : List UInt8) : (mk l).data.toList = l := by simp
theorem map_mk (m : List ByteArray) : (m.map (·.data.toList)).map mk = m := by
  rw [List.map_map]
  have : (mk ∘ fun s : ByteArray => s.data.toList) = id := rfl
  rw [this, List.map_id]
theorem map_data (m : List (List UInt8)) : (m.map mk).map (·.data.toList) = m := by
  rw [List.map_map]
  have : ((fun s : ByteArray => s.data.toList) ∘ mk) = id := by
    funext l
    exact data_mk l
  rw [this, List.map_id]

/-- these are a path's names -/
def IsNames (l : List ByteArray) : Prop := l.length ≤ 64 ∧ ∀ n ∈ l, Ent.Right (Crc.tx n)
instance (l : List ByteArray) : Decidable (IsNames l) := by unfold IsNames; infer_instance
def isNames (l : List ByteArray) : Bool := decide (IsNames l)

/-- a path's names -/
def spl (s : ByteArray) : Option (List ByteArray) :=
  match s.data.toList with
  | [] => none
  | b :: r => if b = 47 then (if r = [] then some [] else if IsNames ((cut r).map mk) then some ((cut r).map mk) else none) else none
/-- names' path -/
def pth (l : List ByteArray) : ByteArray := if l = [] then mk [47] else mk (Lib.joinTail [47] (l.map (·.data.toList)))

theorem joinTail_cons (x : List UInt8) (r : List (List UInt8)) : Lib.joinTail [47] (x :: r) = 47 :: (x ++ Lib.joinTail [47] r) := by
  simp [Lib.joinTail]
theorem joinTail_snoc (r : List (List UInt8)) (x : List UInt8) : Lib.joinTail [47] (r ++ [x]) = Lib.joinTail [47] r ++ [47] ++ x := by
  simp [Lib.joinTail]
theorem tail_glue (x : List UInt8) {c : List (List UInt8)} (h : c ≠ []) : Lib.joinTail [47] (glue x c) = 47 :: (x ++ (Lib.joinTail [47] c).drop 1) := by
  cases c with
  | nil => exact absurd rfl h
  | cons p ps => rw [glue, joinTail_cons, joinTail_cons]; simp
theorem tail_cut : ∀ l, Lib.joinTail [47] (cut l) = 47 :: l
  | [] => by simp [cut, Lib.joinTail]
  | b :: l => by
    rw [cut]
    split
    · rename_i hb
      rw [joinTail_cons, tail_cut l, hb]
      rfl
    · rw [tail_glue _ (cut_ne l), tail_cut l]
      rfl
theorem cut_plain : ∀ (x l : List UInt8), (∀ b ∈ x, b ≠ 47) → cut (x ++ l) = glue x (cut l)
  | [], l, _ => (glue_none (cut_ne l)).symm
  | b :: x, l, h => by
    rw [List.cons_append, cut, if_neg (h b (by simp)), cut_plain x l (fun c hc => h c (by simp [hc])), glue_glue]
    rfl
theorem cut_tail : ∀ (r : List (List UInt8)) (x : List UInt8), (∀ b ∈ x, b ≠ 47) → (∀ y ∈ r, ∀ b ∈ y, b ≠ 47) → cut (x ++ Lib.joinTail [47] r) = x :: r
  | [], x, hx, _ => by
    have := cut_plain x [] hx
    rw [show Lib.joinTail [47] [] = [] from rfl, this]
    simp [cut, glue]
  | y :: r, x, hx, hr => by
    rw [cut_plain _ _ hx, joinTail_cons, cut, if_pos rfl, cut_tail r y (hr y (by simp)) (fun z hz => hr z (by simp [hz]))]
    simp [glue]

theorem right_plain {s : ByteArray} (h : Ent.Right (Crc.tx s)) : (∀ b ∈ s.data.toList, b ≠ 47) ∧ s.data.toList ≠ [] := by
  refine ⟨fun b hb e => ?_, fun e => ?_⟩
  · have : b.toNat ∈ Crc.tx s := List.mem_map_of_mem hb
    have := (h.2.2.2 _ this).2
    subst e
    exact this rfl
  · have := h.1.1
    unfold Crc.tx at this
    rw [e] at this
    simp at this
theorem spl_pth {l : List ByteArray} (h : IsNames l) : spl (pth l) = some l := by
  cases l with
  | nil => rfl
  | cons x r =>
    have hx := right_plain (h.2 x (by simp))
    have e : (pth (x :: r)).data.toList = 47 :: (x.data.toList ++ Lib.joinTail [47] (r.map (·.data.toList))) := by
      unfold pth
      rw [if_neg (by simp), data_mk, List.map_cons, joinTail_cons]
    have hc := cut_tail (r.map (·.data.toList)) x.data.toList hx.1 (fun y hy => by
      obtain ⟨z, hz, rfl⟩ := List.mem_map.1 hy
      exact (right_plain (h.2 z (by simp [hz]))).1)
    have hm : (cut (x.data.toList ++ Lib.joinTail [47] (r.map (·.data.toList)))).map mk = x :: r := by
      rw [hc]
      exact map_mk (x :: r)
    unfold spl
    rw [e]
    simp only [if_true]
    rw [if_neg (by simp [hx.2]), hm, if_pos h]
theorem pth_spl {s : ByteArray} {l : List ByteArray} (h : spl s = some l) : IsNames l ∧ pth l = s := by
  unfold spl at h
  split at h
  · cases h
  · rename_i b r e
    split at h
    · rename_i hb
      subst hb
      split at h
      · rename_i hr
        subst hr
        injection h with h
        subst h
        refine ⟨⟨by simp, fun n hn => by simp at hn⟩, ?_⟩
        rw [← mk_data s, e]
        rfl
      · split at h
        · rename_i hi
          injection h with h
          subst h
          refine ⟨hi, ?_⟩
          unfold pth
          rw [if_neg (by simp [cut_ne]), map_data, tail_cut, ← e, mk_data]
        · cases h
    · cases h
theorem pth_join (l : List ByteArray) : pth l = mk (47 :: Lib.join (l.map (·.data.toList)) [47]) := by
  cases l with
  | nil => rfl
  | cons x r =>
    unfold pth
    rw [if_neg (by simp), List.map_cons, joinTail_cons, Lib.join_cons]
end Pat
end Go.Proofs.YtkhkcfbacnkcnaaGreatDoor
/- Names as they lie in memory. -/
namespace Go.Proofs.YtkhkcfbacnkcnaaGreatDoor
open Go.RowKit Go.MapKept
namespace Pat

/-- names as they lie -/
structure Txs (w : World) (A : Option Addr) (l : List ByteArray) : Prop where
  size : ∀ s ∈ l, s.size ≤ 9223372036854775807
  len : l.length ≤ 9223372036854775807
  at' : ∀ j (h : j < l.length), ∃ b o, A = some ⟨b, o, none⟩ ∧ b < w.heap.size ∧ w.cell? ⟨b, o + j, none⟩ = some (.string l[j])
theorem Txs.keepN {w w' : World} {N : Nat} {A : Option Addr} {l : List ByteArray} (h : Txs w A l) (hb : Below N w w') (hN : ∀ a, A = some a → a.block < N) : Txs w' A l :=
  ⟨h.size, h.len, fun j hj => by
    obtain ⟨b, o, e, hlt, hc⟩ := h.at' j hj
    exact ⟨b, o, e, Nat.lt_of_lt_of_le hlt hb.size, (hb.cell (p := ⟨b, o + j, none⟩) (show b < N from hN _ e)).trans hc⟩⟩
theorem Txs.keep {w w' : World} {A : Option Addr} {l : List ByteArray} (h : Txs w A l) (hb : Below w.heap.size w w') : Txs w' A l :=
  ⟨h.size, h.len, fun j hj => by
    obtain ⟨b, o, e, hlt, hc⟩ := h.at' j hj
    exact ⟨b, o, e, Nat.lt_of_lt_of_le hlt hb.size, (hb.cell (p := ⟨b, o + j, none⟩) hlt).trans hc⟩⟩
theorem Txs.drew {w : World} {A : Option Addr} {l : List ByteArray} (h : Txs w A l) : Txs w.drew A l := h.keep (Below.refl _ _).drew
theorem Txs.drewN {w : World} {A : Option Addr} {l : List ByteArray} (h : Txs w A l) (k : Nat) : Txs (w.drewN k) A l := ⟨h.size, h.len, h.at'⟩
theorem Txs.alloc {w : World} {A : Option Addr} {l : List ByteArray} (h : Txs w A l) (o : Obj) : Txs (w.alloc o) A l := h.keep ((Below.refl _ _).alloc (Nat.le_refl _) o)
theorem txs_nil (w : World) (A : Option Addr) : Txs w A [] := ⟨fun _ h => by simp at h, by simp, fun j h => by simp at h⟩
/-- the first n of them -/
theorem Txs.take {w : World} {A : Option Addr} {l : List ByteArray} (h : Txs w A l) (n : Nat) : Txs w A (l.take n) :=
  ⟨fun s hs => h.size s (List.mem_of_mem_take hs), by have := h.len; rw [List.length_take]; omega, fun j hj => by
    have hj' : j < l.length := by rw [List.length_take] at hj; omega
    obtain ⟨b, o, e, hlt, hc⟩ := h.at' j hj'
    exact ⟨b, o, e, hlt, by rw [hc, List.getElem_take]⟩⟩

abbrev strs (l : List ByteArray) : List Value := l.map .string
theorem strs_one (l : List ByteArray) : ∀ u ∈ strs l, u.oneCell' = true := by
  intro u hu
  obtain ⟨x, _, rfl⟩ := List.mem_map.1 hu
  rfl
theorem txs_news {W : World} {ad : Addr} {l : List ByteArray} (h : Txs W (some ad) l) : ∀ j u, (strs l)[j]? = some u → W.cell? (ad.add j) = some u := by
  intro j u hu
  have hj : j < l.length := by
    have := (List.getElem?_eq_some_iff.1 hu).1
    simpa [strs] using this
  obtain ⟨b, o, e, _, hc⟩ := h.at' j hj
  injection e with e
  subst e
  rw [Go.WideShapes.add_plain, hc, ← hu]
  simp [strs, List.getElem?_eq_getElem hj]
/-- a row of names of the call's own -/
theorem own_txs {W : World} {B n c : Nat} {t : TypeId} {G : Option Addr} {l : List ByteArray} (h : W.ownsRow B t 1 (.slice G n c) n (strs l)) (hs : ∀ s ∈ l, s.size ≤ 9223372036854775807) (hl : n ≤ 9223372036854775807) : Txs W G l ∧ l.length = n := by
  have hln : l.length = n := by
    have := h.1
    simp only [strs, List.length_map] at this
    omega
  refine ⟨⟨hs, by omega, fun j hj => ?_⟩, hln⟩
  rcases h.2 with ⟨e, h0⟩ | ⟨g, cap, cur, e, hB, hh, _, _, _, ht⟩
  · omega
  · injection e with e
    subst e
    refine ⟨g, 0, rfl, (Array.getElem?_eq_some_iff.1 hh).1, ?_⟩
    have := congrArg (·[j]?) ht
    rw [List.getElem?_take, if_pos (by omega)] at this
    unfold World.cell?
    rw [hh, Nat.zero_add]
    simp only
    rw [← Array.getElem?_toList]
    refine this.trans ?_
    simp [strs, List.getElem?_eq_getElem hj]
theorem own_keepN {w w' : World} {B N n : Nat} {t : TypeId} {v : Value} {xs : List Value} (h : w.ownsRow B t 1 v n xs) (hb : Below N w w') (hN : ∀ g, v.ownBlock = some g → g < N) : w'.ownsRow B t 1 v n xs := by
  rcases h with ⟨h1, h2⟩
  refine ⟨h1, ?_⟩
  rcases h2 with h0 | ⟨g, cap, cur, e, hB, hh, hr⟩
  · exact .inl h0
  · exact .inr ⟨g, cap, cur, e, hB, (hb.block g (hN g (by rw [e]; rfl))).trans hh, hr⟩
theorem own_keep {w w' : World} {B n : Nat} {t : TypeId} {v : Value} {xs : List Value} (h : w.ownsRow B t 1 v n xs) (hb : Below w.heap.size w w') : w'.ownsRow B t 1 v n xs :=
  own_keepN h hb (fun g hg => (World.ownsRow.lt h g hg).2)
theorem row_slice {B n : Nat} {W : World} {e : TypeId} {v : Value} {xs : List Value} (h : W.ownsRow B e 1 v n xs) : ∃ G c, v = .slice G n c := by
  rcases h.2 with ⟨e, h0⟩ | ⟨g, cap, cur, e, _⟩
  · exact ⟨none, 0, by rw [e, h0]⟩
  · exact ⟨_, _, e⟩
theorem row_base_lt {w : World} {B : Nat} {e : TypeId} {n : Nat} {v : Value} {xs : List Value} (h : w.ownsRow B e 1 v n xs) {g : Nat} (hg : v.ownBlock = some g) : B ≤ g := (World.ownsRow.lt h g hg).1
theorem str_info : (Tryz.prog.info? 9).map (fun i => (i.zero, i.size, i.bytes)) = some (some (.string ByteArray.empty), 1, 16) := by kernel_rfl
theorem info_parts {t : TypeId} {v : Value} {n m : Nat} (h : (Tryz.prog.info? t).map (fun i => (i.zero, i.size, i.bytes)) = some (some v, n, m)) : ∃ i, Tryz.prog.info? t = some i ∧ i.zero = some v ∧ i.size = n ∧ i.bytes = m := by
  cases hi : Tryz.prog.info? t with
  | none => rw [hi] at h; cases h
  | some i =>
    rw [hi] at h
    simp only [Option.map_some, Option.some.injEq, Prod.mk.injEq] at h
    exact ⟨i, rfl, h.1, h.2.1, h.2.2⟩
end Pat
end Go.Proofs.YtkhkcfbacnkcnaaGreatDoor
/- Which of two paths stands ahead, the program's and the document's; whether they are the same; whether names are few. -/
namespace Go.Proofs.YtkhkcfbacnkcnaaGreatDoor
open Go.RowKit Go.MapKept
namespace Pat

theorem below_drewN {B : Nat} {a w : World} (h : Below B a w) (n : Nat) : Below B a (w.drewN n) := ⟨h.os, h.tape, h.output, h.size, h.block⟩

/-- 0: the same; below: the first is ahead -/
def cmpT (a b : ByteArray) : Int := if a = b then 0 else if less a b then -1 else 1

set_option maxHeartbeats 2000000 in
theorem refBefore_any (w : World) (A B : Option Addr) (c d : Nat) (x y : List ByteArray) (hx : Txs w A x) (hy : Txs w B y) :
    Calls Tryz.prog 77 #[.slice A x.length c, .slice B y.length d] w fun e w' => e = .returned (.bool (bef x y)) ∧ ∃ n, w' = w.drewN n := by
  have hxl := hx.len
  have hyl := hy.len
  have HX := Lib.hid hx
  have HY := Lib.hid hy
  clear hx hy
  go_enter Tryz.func77, Tryz.ntmps77
  go_wp2
  go_loopw [8] (fun i wr => ∃ k : Nat, k ≤ x.length ∧ k ≤ y.length ∧ i = .int .i64 (k : Int) ∧ (∃ n, wr = w.drewN n) ∧ bef x y = bef (x.drop k) (y.drop k)) (fun i _ => x.length - (intOf i).toNat)
  case atStart => exact ⟨0, Nat.zero_le _, Nat.zero_le _, rfl, ⟨0, rfl⟩, rfl⟩
  case round =>
    obtain ⟨k, hk, hk', rfl, ⟨n, hw⟩, hc⟩ := hrel
    have HC := Lib.hid hc
    clear hc
    by_cases hlt : k < x.length
    · by_cases hlt' : k < y.length
      · obtain ⟨b, o, rfl, _, hc0⟩ := (show Txs wr A x by rw [hw]; exact HX.out.drewN n).at' k hlt
        obtain ⟨b', o', rfl, _, hd0⟩ := (show Txs wr B y by rw [hw]; exact HY.out.drewN n).at' k hlt'
        have HW := Lib.hid hw
        clear hw
        have hi0 : (0 : Int) ≤ (k : Int) := by omega
        have hi1 : (k : Int) < (x.length : Int) := by omega
        have hi2 : (k : Int) < (y.length : Int) := by omega
        by_cases e : x[k] = y[k]
        · have HS := Lib.hid (HC.out.trans (bef_same hlt hlt' e))
          generalize x[k] = s at *
          generalize y[k] = t at *
          subst e
          go_wp2_with fail
          go_quiet (fail)
          go_wp2
          refine ⟨⟨k + 1, by omega, by omega, by go_num, ?_, HS.out⟩, by simp [intOf]; omega⟩
          rw [HW.out]
          exact ⟨n + nq, by rw [World.drewN_drewN]⟩
        · have HZ := Lib.hid (show bef x y = Op.bytesLess x[k].toList y[k].toList from HC.out.trans (bef_diff hlt hlt' e))
          generalize x[k] = s at *
          generalize y[k] = t at *
          have h0 : ¬ s.toList = t.toList := fun h => e (toList_inj h)
          have h1 : (s.toList == t.toList) = false := by simpa using h0
          go_wp2_with fail
          go_quiet (fail)
          go_wp2_with fail
          go_quiet (fail)
          go_wp2
          go_ret
          refine ⟨by rw [HZ.out]; rfl, ?_⟩
          rw [HW.out]
          exact ⟨_, by rw [World.drewN_drewN, World.drewN_drewN]⟩
      · obtain rfl : k = y.length := by omega
        have HE := Lib.hid (HC.out.trans (bef_end (Nat.le_refl _)))
        have HW := Lib.hid hw
        clear hw
        go_wp2
        go_ret
        exact ⟨by rw [HE.out]; rfl, n, HW.out⟩
    · obtain rfl : k = x.length := by omega
      have HE := Lib.hid (HC.out.trans (bef_over hk'))
      have HW := Lib.hid hw
      clear hw
      have hd : decide ((x.length : Int) < (y.length : Int)) = decide (x.length < y.length) := by
        by_cases h : x.length < y.length
        · rw [decide_eq_true h, decide_eq_true (by omega)]
        · rw [decide_eq_false h, decide_eq_false (by omega)]
      have HDD := Lib.hid hd
      clear hd
      go_wp2
      go_ret
      exact ⟨by rw [HE.out, ← HDD.out]; rfl, n, HW.out⟩

set_option maxHeartbeats 2000000 in
theorem same_any (w : World) (A B : Option Addr) (c d : Nat) (x y : List ByteArray) (hx : Txs w A x) (hy : Txs w B y) :
    Calls Tryz.prog 12 #[.slice A x.length c, .slice B y.length d] w fun e w' => e = .returned (.bool (decide (x = y))) ∧ ∃ n, w' = w.drewN n := by
  have hxl := hx.len
  have hyl := hy.len
  have HX := Lib.hid hx
  have HY := Lib.hid hy
  clear hx hy
  by_cases hl : x.length = y.length
  · have hne : ((x.length : Int) == (y.length : Int)) = true := by rw [hl]; exact beq_self_eq_true _
    go_enter Tryz.func12, Tryz.ntmps12
    go_wp2
    go_loopw [13] (fun i wr => ∃ k : Nat, k ≤ x.length ∧ i = .int .i64 (k : Int) ∧ (∃ n, wr = w.drewN n) ∧ x.take k = y.take k) (fun i _ => x.length - (intOf i).toNat)
    case atStart => exact ⟨0, Nat.zero_le _, rfl, ⟨0, rfl⟩, rfl⟩
    case round =>
      obtain ⟨k, hk, rfl, ⟨n, hw⟩, hc⟩ := hrel
      have HC := Lib.hid hc
      clear hc
      by_cases hlt : k < x.length
      · have hlt' : k < y.length := by omega
        obtain ⟨b, o, rfl, _, hc0⟩ := (show Txs wr A x by rw [hw]; exact HX.out.drewN n).at' k hlt
        obtain ⟨b', o', rfl, _, hd0⟩ := (show Txs wr B y by rw [hw]; exact HY.out.drewN n).at' k hlt'
        have HW := Lib.hid hw
        clear hw
        have hi0 : (0 : Int) ≤ (k : Int) := by omega
        have hi1 : (k : Int) < (x.length : Int) := by omega
        have hi2 : (k : Int) < (y.length : Int) := by omega
        by_cases e : x[k] = y[k]
        · have HS := Lib.hid (take_same hlt hlt' e HC.out)
          generalize x[k] = s at *
          generalize y[k] = t at *
          subst e
          go_wp2_with fail
          go_quiet (fail)
          go_wp2
          refine ⟨⟨k + 1, by omega, by go_num, ?_, HS.out⟩, by simp [intOf]; omega⟩
          rw [HW.out]
          exact ⟨n + nq, by rw [World.drewN_drewN]⟩
        · have HZ := Lib.hid (show decide (x = y) = false from decide_eq_false (fun h => e (by subst h; rfl)))
          generalize x[k] = s at *
          generalize y[k] = t at *
          have h0 : ¬ s.toList = t.toList := fun h => e (toList_inj h)
          have h1 : (s.toList == t.toList) = false := by simpa using h0
          go_wp2_with fail
          go_quiet (fail)
          go_wp2
          go_ret
          refine ⟨by rw [HZ.out]; rfl, ?_⟩
          rw [HW.out]
          exact ⟨_, by rw [World.drewN_drewN]⟩
      · obtain rfl : k = x.length := by omega
        have HE := Lib.hid (show decide (x = y) = true from decide_eq_true (by
          have := HC.out
          rw [List.take_length, hl, List.take_length] at this
          exact this))
        have HW := Lib.hid hw
        clear hw
        go_wp2
        go_ret
        exact ⟨by rw [HE.out]; rfl, n, HW.out⟩
  · have hne : ((x.length : Int) == (y.length : Int)) = false := beq_eq_false_iff_ne.2 (by omega)
    have hne2 : ¬ (x.length : Int) = (y.length : Int) := by omega
    have HE := Lib.hid (show decide (x = y) = false from decide_eq_false (fun h => hl (by rw [h])))
    go_enter Tryz.func12, Tryz.ntmps12
    go_wp2
    go_ret
    exact ⟨by rw [HE.out]; rfl, 0, rfl⟩

/-- few, and short -/
def Few (l : List ByteArray) : Prop := (∀ s ∈ l, s.size ≤ 60) ∧ l.length ≤ 70
instance (l : List ByteArray) : Decidable (Few l) := by unfold Few; infer_instance
def few (l : List ByteArray) : Bool := decide (Few l)

end Pat
end Go.Proofs.YtkhkcfbacnkcnaaGreatDoor
/- The library's bodies (strings.SplitN, strings.Join) as they stand in this program, in plain words. -/
namespace Go.Proofs
open Go.Shelf
def Tryz.splitA_ren : Go.Shelf.Ren := ⟨fun | 147 => 86 | 221 => 97 | 268 => 111 | 138 => 112 | 143 => 113 | 195 => 121 | 197 => 122 | 218 => 123 | 219 => 124 | 260 => 138 | 217 => 139 | 225 => 140 | 224 => 141 | 267 => 142 | 266 => 149 | 314 => 150 | n => n, fun | 9 => 9 | 3 => 3 | 31 => 33 | 4 => 4 | 0 => 0 | 105 => 174 | 21 => 21 | 5 => 5 | 46 => 172 | 119 => 198 | 139 => 201 | 138 => 200 | 146 => 202 | 51 => 149 | n => n, fun | 1 => 0 | 3 => 1 | 4 => 2 | n => n⟩
theorem Tryz.splitA : Go.Proofs.Lays.n147 Tryz.prog Tryz.splitA_ren := {
  mixed := by kernel_rfl
  f138 := Tryz.func112.trans (congrArg some (by kernel_rfl))
  f143 := Tryz.func113.trans (congrArg some (by kernel_rfl))
  f147 := Tryz.func86.trans (congrArg some (by kernel_rfl))
  f195 := Tryz.func121.trans (congrArg some (by kernel_rfl))
  f197 := Tryz.func122.trans (congrArg some (by kernel_rfl))
  f217 := Tryz.func139.trans (congrArg some (by kernel_rfl))
  f218 := Tryz.func123.trans (congrArg some (by kernel_rfl))
  f219 := Tryz.func124.trans (congrArg some (by kernel_rfl))
  f221 := Tryz.func97.trans (congrArg some (by kernel_rfl))
  f224 := Tryz.func141.trans (congrArg some (by kernel_rfl))
  f225 := Tryz.func140.trans (congrArg some (by kernel_rfl))
  f260 := Tryz.func138.trans (congrArg some (by kernel_rfl))
  f266 := Tryz.func149.trans (congrArg some (by kernel_rfl))
  f267 := Tryz.func142.trans (congrArg some (by kernel_rfl))
  f268 := Tryz.func111.trans (congrArg some (by kernel_rfl))
  f314 := Tryz.func150.trans (congrArg some (by kernel_rfl))
  t0 := Tryz.underlying0
  a0 := Tryz.isAgg0
  z0 := Tryz.sizeOf0
  v0 := Tryz.zeroValue0
  t3 := Tryz.underlying3
  a3 := Tryz.isAgg3
  z3 := Tryz.sizeOf3
  v3 := Tryz.zeroValue3
  t4 := Tryz.underlying4
  a4 := Tryz.isAgg4
  z4 := Tryz.sizeOf4
  v4 := Tryz.zeroValue4
  t5 := Tryz.underlying5
  a5 := Tryz.isAgg5
  z5 := Tryz.sizeOf5
  v5 := Tryz.zeroValue5
  t9 := Tryz.underlying9
  a9 := Tryz.isAgg9
  z9 := Tryz.sizeOf9
  v9 := Tryz.zeroValue9
  t21 := Tryz.underlying21
  a21 := Tryz.isAgg21
  z21 := Tryz.sizeOf21
  v21 := Tryz.zeroValue21
  t31 := Tryz.underlying33
  a31 := Tryz.isAgg33
  z31 := Tryz.sizeOf33
  v31 := Tryz.zeroValue33
  t46 := Tryz.underlying172
  a46 := Tryz.isAgg172
  z46 := Tryz.sizeOf172
  v46 := Tryz.zeroValue172
  t51 := Tryz.underlying149
  a51 := Tryz.isAgg149
  z51 := Tryz.sizeOf149
  v51 := Tryz.zeroValue149
  t105 := Tryz.underlying174
  a105 := Tryz.isAgg174
  z105 := Tryz.sizeOf174
  v105 := Tryz.zeroValue174
  t119 := Tryz.underlying198
  a119 := Tryz.isAgg198
  z119 := Tryz.sizeOf198
  t138 := Tryz.underlying200
  a138 := Tryz.isAgg200
  z138 := Tryz.sizeOf200
  v138 := Tryz.zeroValue200
  t139 := Tryz.underlying201
  a139 := Tryz.isAgg201
  z139 := Tryz.sizeOf201
  v139 := Tryz.zeroValue201
  t146 := Tryz.underlying202
  a146 := Tryz.isAgg202
  z146 := Tryz.sizeOf202
  v146 := Tryz.zeroValue202
  g1 := by kernel_rfl
  g3 := by kernel_rfl
  g4 := by kernel_rfl }
def Tryz.joinA_ren : Go.Shelf.Ren := ⟨fun | 156 => 95 | 165 => 107 | 166 => 108 | 169 => 109 | 240 => 119 | 241 => 120 | 276 => 136 | 277 => 137 | n => n, fun | 31 => 33 | 9 => 9 | 3 => 3 | 4 => 4 | 0 => 0 | 20 => 20 | 72 => 156 | 76 => 159 | 70 => 154 | 37 => 30 | 75 => 158 | 127 => 168 | 164 => 188 | 5 => 5 | 80 => 161 | n => n, fun | n => n⟩
theorem Tryz.joinA : Go.Proofs.Lays.n156 Tryz.prog Tryz.joinA_ren := {
  mixed := by kernel_rfl
  f156 := Tryz.func95.trans (congrArg some (by kernel_rfl))
  f165 := Tryz.func107.trans (congrArg some (by kernel_rfl))
  f166 := Tryz.func108.trans (congrArg some (by kernel_rfl))
  f169 := Tryz.func109.trans (congrArg some (by kernel_rfl))
  f240 := Tryz.func119.trans (congrArg some (by kernel_rfl))
  f241 := Tryz.func120.trans (congrArg some (by kernel_rfl))
  f276 := Tryz.func136.trans (congrArg some (by kernel_rfl))
  f277 := Tryz.func137.trans (congrArg some (by kernel_rfl))
  t0 := Tryz.underlying0
  a0 := Tryz.isAgg0
  z0 := Tryz.sizeOf0
  v0 := Tryz.zeroValue0
  t3 := Tryz.underlying3
  a3 := Tryz.isAgg3
  z3 := Tryz.sizeOf3
  v3 := Tryz.zeroValue3
  t4 := Tryz.underlying4
  a4 := Tryz.isAgg4
  z4 := Tryz.sizeOf4
  v4 := Tryz.zeroValue4
  t9 := Tryz.underlying9
  a9 := Tryz.isAgg9
  z9 := Tryz.sizeOf9
  v9 := Tryz.zeroValue9
  t20 := Tryz.underlying20
  a20 := Tryz.isAgg20
  z20 := Tryz.sizeOf20
  v20 := Tryz.zeroValue20
  t31 := Tryz.underlying33
  a31 := Tryz.isAgg33
  z31 := Tryz.sizeOf33
  v31 := Tryz.zeroValue33
  t37 := Tryz.underlying30
  a37 := Tryz.isAgg30
  z37 := Tryz.sizeOf30
  v37 := Tryz.zeroValue30
  t70 := Tryz.underlying154
  a70 := Tryz.isAgg154
  z70 := Tryz.sizeOf154
  v70 := Tryz.zeroValue154
  t72 := Tryz.underlying156
  a72 := Tryz.isAgg156
  z72 := Tryz.sizeOf156
  v72 := Tryz.zeroValue156
  t75 := Tryz.underlying158
  a75 := Tryz.isAgg158
  z75 := Tryz.sizeOf158
  v75 := Tryz.zeroValue158
  t76 := Tryz.underlying159
  a76 := Tryz.isAgg159
  z76 := Tryz.sizeOf159
  v76 := Tryz.zeroValue159
  t127 := Tryz.underlying168
  a127 := Tryz.isAgg168
  z127 := Tryz.sizeOf168
  v127 := Tryz.zeroValue168
  t164 := Tryz.underlying188
  a164 := Tryz.isAgg188
  z164 := Tryz.sizeOf188
  v164 := Tryz.zeroValue188 }
end Go.Proofs
/- The program's Split, and whether texts are a path's names. -/
namespace Go.Proofs.YtkhkcfbacnkcnaaGreatDoor
open Go.RowKit Go.MapKept Go.Shelf
namespace Pat

theorem isNames_no {l : List ByteArray} (h : ¬ IsNames l) : isNames l = false := decide_eq_false h
set_option maxHeartbeats 1000000 in
theorem right_any (w : World) (A : Option Addr) (c n : Nat) (l : List ByteArray) (h : Txs w A l) (hn : l.length = n) :
    Calls Tryz.prog 87 #[.slice A n c] w fun e w' => e = .returned (.bool (isNames l)) ∧ w' = w := by
  subst hn
  have hl := h.len
  have H := Lib.hid h
  clear h
  by_cases h64 : l.length ≤ 64
  · have hg : ¬ (64 : Int) < (l.length : Int) := by omega
    go_enter Tryz.func87, Tryz.ntmps87
    go_wp2
    go_loopw [10] (fun i wr => ∃ k : Nat, k ≤ l.length ∧ i = .int .i64 (k : Int) ∧ wr = w ∧ ∀ s ∈ l.take k, Ent.Right (Crc.tx s)) (fun i _ => l.length - (intOf i).toNat)
    case atStart => exact ⟨0, Nat.zero_le _, rfl, rfl, fun s hs => by simp at hs⟩
    case round =>
      obtain ⟨k, hk, rfl, rfl, hr⟩ := hrel
      have HR := Lib.hid hr
      clear hr
      by_cases hlt : k < l.length
      · obtain ⟨b, o, rfl, _, hc0⟩ := H.out.at' k hlt
        have hs := H.out.size _ (List.getElem_mem hlt)
        have HT := Lib.hid (show l.take (k + 1) = l.take k ++ [l[k]] from List.take_succ_eq_append_getElem hlt)
        have HM := Lib.hid (List.getElem_mem hlt)
        generalize l[k] = s at *
        by_cases hr : Ent.Right (Crc.tx s)
        · have hrb : Ent.right (Crc.tx s) = true := Ent.right_iff.2 hr
          have HX := Lib.hid hr
          clear hr
          go_wp2_with fail
          refine (Ent.right_any _ s hs).mono ?_
          rintro e w' ⟨rfl, rfl⟩
          rw [hrb]
          go_wp2
          refine ⟨⟨k + 1, by omega, by go_num, by first | rfl | trivial, ?_⟩, by simp [intOf]; omega⟩
          rw [HT.out]
          intro x hx
          rcases List.mem_append.1 hx with h1 | h1
          · exact HR.out x h1
          · obtain rfl : x = s := by simpa using h1
            exact HX.out
        · have hrb : Ent.right (Crc.tx s) = false := Ent.right_no hr
          have HX := Lib.hid (isNames_no (l := l) (fun h => hr (h.2 _ HM.out)))
          clear hr
          go_wp2_with fail
          refine (Ent.right_any _ s hs).mono ?_
          rintro e w' ⟨rfl, rfl⟩
          rw [hrb]
          go_wp2
          go_ret
          exact ⟨by rw [HX.out]; rfl, rfl⟩
      · obtain rfl : k = l.length := by omega
        rw [List.take_length] at HR
        have HX := Lib.hid (show isNames l = true from decide_eq_true ⟨h64, HR.out⟩)
        go_wp2
        go_ret
        exact ⟨by rw [HX.out]; rfl, rfl⟩
  · have hg : (64 : Int) < (l.length : Int) := by omega
    have HX := Lib.hid (isNames_no (l := l) (fun h => h64 h.1))
    go_enter Tryz.func87, Tryz.ntmps87
    go_wp2
    go_ret
    exact ⟨by rw [HX.out]; rfl, rfl⟩

/-! The library's SplitN at one byte. -/
theorem index_one (w : World) (x : ByteArray) (c : Array Value) (t : TypeId) : Calls Tryz.prog 113 #[.string x, .string ⟨#[47]⟩] (w.alloc (.cells c t)) fun e w' => e = .returned (.int .i64 (Lib.indexB x ⟨#[47]⟩)) ∧ w' = w.alloc (.cells c t) :=
  (Any.strings_Index_one { Tryz.splitA with } x 47 (w.alloc (.cells c t))).mono fun e w' ⟨he, hw⟩ => ⟨by
    rw [he]
    show _ = Ending.returned (Value.int .i64 (Lib.index x.data.toList [47]))
    rw [Lib.index_one], hw⟩
theorem count_one (w : World) (s : ByteArray) : Calls Tryz.prog 112 #[.string s, .string ⟨#[47]⟩] w fun e w' => e = .returned (.int .i64 (Lib.countB s ⟨#[47]⟩)) ∧ w' = w :=
  (Any.strings_Count_one { Tryz.splitA with } s 47 w).mono fun e w' ⟨he, hw⟩ => ⟨by
    rw [he]
    show _ = Ending.returned (Value.int .i64 ((Lib.count s.data.toList [47] : Nat) : Int))
    rw [Lib.count_one]
    rfl, hw⟩
/-- what 65 pieces at most come to -/
theorem pieces_few {s : ByteArray} (h : (cut s.data.toList).length ≤ 64) : Lib.splitB ⟨#[47]⟩ 0 (min 65 (s.size + 1) - 1) s = (cut s.data.toList).map mk := by
  have h1 := Lib.splitB_data ⟨#[47]⟩ 0 (min 65 (s.size + 1) - 1) s
  have hl := cut_len s.data.toList
  rw [← Lib.size_eq] at hl
  have h2 : Lib.splitK [47] 0 (min 65 (s.size + 1) - 1) s.data.toList = cut s.data.toList := splitK_few _ _ (by omega)
  have h3 := congrArg (List.map mk) (h1.trans h2)
  rw [map_mk] at h3
  exact h3
theorem pieces_many {s : ByteArray} (h : ¬ (cut s.data.toList).length ≤ 64) : (Lib.splitB ⟨#[47]⟩ 0 (min 65 (s.size + 1) - 1) s).length = 65 := by
  have h1 := congrArg List.length (Lib.splitB_data ⟨#[47]⟩ 0 (min 65 (s.size + 1) - 1) s)
  have hl := cut_len s.data.toList
  rw [← Lib.size_eq] at hl
  have hk : min 65 (s.size + 1) - 1 = 64 := by omega
  rw [hk] at h1 ⊢
  rw [List.length_map] at h1
  rw [h1]
  exact splitK_many 64 s.data.toList (by omega)
theorem piece_size (k : Nat) : ∀ (s : ByteArray), ∀ x ∈ Lib.splitB ⟨#[47]⟩ 0 k s, x.size ≤ s.size := by
  induction k with
  | zero =>
    intro s x hx
    rw [Lib.splitB_zero] at hx
    obtain rfl : x = s := by simpa using hx
    exact Nat.le_refl _
  | succ k ih =>
    intro s x hx
    rcases Lib.indexB_cases s ⟨#[47]⟩ with hix | ⟨i, hix, hroom⟩
    · rw [Lib.splitB_miss _ _ _ _ hix] at hx
      obtain rfl : x = s := by simpa using hx
      exact Nat.le_refl _
    · rw [Lib.splitB_hit _ _ _ _ i hix] at hx
      rcases List.mem_cons.1 hx with rfl | hx
      · rw [ByteArray.size_extract]; omega
      · have := ih _ x hx
        rw [ByteArray.size_extract] at this
        omega
theorem cells_txs (w : World) (l : List ByteArray) (N : Nat) (t : TypeId) (hs : ∀ s ∈ l, s.size ≤ 9223372036854775807) (hl : l.length ≤ 9223372036854775807) : Txs (w.alloc (.cells (Lib.cellsOf l N) t)) (some ⟨w.heap.size, 0, none⟩) l :=
  ⟨hs, hl, fun j hj => ⟨w.heap.size, 0, rfl, by simp, by
    rw [Nat.zero_add, World.cell?_alloc_mark]
    unfold Lib.cellsOf
    rw [List.getElem?_toArray, List.getElem?_append_left (by simpa using hj), List.getElem?_map, List.getElem?_eq_getElem hj]
    rfl⟩⟩

/-- names that a call made -/
def GotN (w : World) (l : List ByteArray) (c : Nat) (e : Ending) (w' : World) : Prop :=
  ∃ A, e = .returned (.slice A l.length c) ∧ l.length ≤ c ∧ Txs w' A l ∧ Below w.heap.size w w'
set_option maxRecDepth 100000 in
set_option maxHeartbeats 1000000 in
theorem splitN_any (w : World) (s : ByteArray) (hs : s.size < 4294967281) :
    Calls Tryz.prog 86 #[.string s, .string ⟨#[47]⟩, .int .i64 65] w (GotN w (Lib.splitB ⟨#[47]⟩ 0 (min 65 (s.size + 1) - 1) s) (min 65 (s.size + 1))) := by
  have c := Any.strings_genSplit_core { Tryz.splitA with } str_info s ⟨#[47]⟩ 0 65 (min 65 (s.size + 1)) w hs (by decide) (Nat.zero_le _) (fun x c _ => index_one w x c 9) (count_one w s) (by decide) (by decide) (by rw [if_neg (by decide)]; omega)
  have hle := Lib.splitB_length_le ⟨#[47]⟩ 0 (min 65 (s.size + 1) - 1) s
  have hps := piece_size (min 65 (s.size + 1) - 1) s
  have HT := Lib.hid (cells_txs w (Lib.splitB ⟨#[47]⟩ 0 (min 65 (s.size + 1) - 1) s) (min 65 (s.size + 1)) 9 (fun x hx => by have := hps x hx; omega) (by omega))
  have HC := Lib.hid (show Calls Tryz.prog 97 #[.string s, .string ⟨#[47]⟩, .int .i64 0, .int .i64 65] w _ from c)
  have HL := Lib.hid (show (Lib.splitB ⟨#[47]⟩ 0 (min 65 (s.size + 1) - 1) s).length ≤ min 65 (s.size + 1) by omega)
  have HB := Lib.hid ((Below.refl w.heap.size w).alloc (Nat.le_refl _) (.cells (Lib.cellsOf (Lib.splitB ⟨#[47]⟩ 0 (min 65 (s.size + 1) - 1) s) (min 65 (s.size + 1))) 9))
  clear c hle hps
  go_enter Tryz.func86, Tryz.ntmps86
  go_wp2_with fail
  refine HC.out.mono ?_
  rintro e w1 ⟨rfl, hw⟩
  have HX := Lib.hid (show GotN w (Lib.splitB ⟨#[47]⟩ 0 (min 65 (s.size + 1) - 1) s) (min 65 (s.size + 1)) (.returned (.slice (some ⟨w.heap.size, 0, none⟩) (Lib.splitB ⟨#[47]⟩ 0 (min 65 (s.size + 1) - 1) s).length (min 65 (s.size + 1)))) w1 by
    rw [hw]
    exact ⟨_, rfl, HL.out, HT.out, HB.out⟩)
  clear hw HC HT HL HB
  go_wp2
  go_ret
  exact HX.out

/-! Split. -/
/-- what Split answers -/
def SplR (w : World) (s : ByteArray) (e : Ending) (w' : World) : Prop :=
  Below w.heap.size w w' ∧ ((∃ l A c, spl s = some l ∧ e = .returned (.tuple #[.slice A l.length c, .int .i64 0]) ∧ l.length ≤ c ∧ Txs w' A l) ∨ (spl s = none ∧ e = .returned (.tuple #[.slice none 0 0, .int .i64 3])))
theorem spl_root {s : ByteArray} (h : s.toList = [47]) : spl s = some [] := by
  have : s.data.toList = [47] := by rw [← Lib.toList_data]; exact h
  unfold spl
  rw [this]
  rfl
theorem data_cons {s : ByteArray} (h0 : 0 < s.size) : s.data.toList = s[0] :: (s.extract 1 s.size).data.toList := by
  rw [Lib.extract_to_end]
  have h1 := Lib.data_getElem? s 0 h0
  cases e : s.data.toList with
  | nil => rw [e] at h1; simp at h1
  | cons b l =>
    rw [e] at h1
    simp at h1
    rw [h1]
    rfl
theorem spl_cons {s : ByteArray} (h0 : 0 < s.size) (hb : s[0] = 47) (h1 : s.toList ≠ [47]) : spl s = if IsNames ((cut (s.extract 1 s.size).data.toList).map mk) then some ((cut (s.extract 1 s.size).data.toList).map mk) else none := by
  have e := data_cons h0
  rw [hb] at e
  have hr : (s.extract 1 s.size).data.toList ≠ [] := fun h => h1 (by rw [Lib.toList_data, e, h])
  unfold spl
  rw [e]
  simp only [if_true]
  rw [if_neg hr]
theorem spl_other {s : ByteArray} (h : ∀ h0 : 0 < s.size, s[0] ≠ 47) : spl s = none := by
  by_cases h0 : 0 < s.size
  · have e := data_cons h0
    unfold spl
    rw [e]
    simp only
    rw [if_neg (h h0)]
  · have : s.data.toList = [] := List.length_eq_zero_iff.1 (by rw [← Lib.size_eq]; omega)
    unfold spl
    rw [this]
theorem head_text {s : ByteArray} (h0 : 0 < s.size) : (s.extract 0 1).toList = [s[0]] := by
  rw [Lib.toList_data, Lib.extract_from_zero, data_cons h0]
  rfl
end Pat
end Go.Proofs.YtkhkcfbacnkcnaaGreatDoor
