/- Texts laid together: GeoRef, CrcMath, CrcRev, CrcStep, CrcSum, CrcLives, CrcRef, CrcWords, CrcText, CrcTurn, PackNum, PackText, PackWords, SupMath. -/
import Derived.Test.YtleehhpodgbomaaGreatDoorCt2
import Derived.KernelRfl
import Derived.Test.YtleehhpodgbomaaGreatDoorRows
import Derived.WalkKit
import Derived.ProofKit
import Derived.Maps.AppendAt
import Derived.MapKept
import Derived.Lib.Hide
import Derived.Laws.BitsAllLaws
import Derived.Laws.IdiomStrings
import Derived.Laws.BytesArg
import Derived.OwnWalk
import Derived.Test.YtleehhpodgbomaaGreatDoorCt1
import Derived.Laws.MakeOwn
import Derived.RegionTactic
import Derived.ChangeAlike
/- The document's own places. -/
namespace Go.Proofs.YtleehhpodgbomaaGreatDoor
open Go.RowKit Go.MapKept
namespace Geo

/-- a place, if there is one -/
def inn (a i n : Int) : Int := if 0 ≤ i ∧ i < n then a else -1
theorem inn_yes {a i n : Int} (h : 0 ≤ i ∧ i < n) : inn a i n = a := if_pos h
theorem inn_no {a i n : Int} (h : ¬ (0 ≤ i ∧ i < n)) : inn a i n = -1 := if_neg h
theorem fill_any (w : World) (n : Int) (h1 : 0 ≤ n) (h2 : n ≤ 10000000) :
    Calls Tryz.prog 127 #[.int .i64 n] w fun r w' => r = .returned (.int .i64 (lines n)) ∧ w = w' := by
  have HL := Lib.hid (show lines n = (n + 7) / 8 * 8 from rfl)
  go_enter Tryz.func127, Tryz.ntmps127
  go_wp2
  go_loop [0] (fun v => ∃ p : Int, n ≤ p ∧ p ≤ (n + 7) / 8 * 8 ∧ v = .int .i64 p) (fun v => ((n + 7) / 8 * 8 - intOf v).toNat)
  case atStart => exact ⟨n, by omega, by omega, rfl⟩
  case round =>
    obtain ⟨p, hp1, hp2, rfl⟩ := hrel
    by_cases hz : p % 8 = 0
    · go_wp2
      go_ret
      have e : p = (n + 7) / 8 * 8 := by omega
      exact ⟨by rw [HL.out, ← e]; rfl, rfl⟩
    · go_wp2
      go_round
      case rel => exact ⟨p + 1, by omega, by omega, rfl⟩
      case measure => simp [intOf]; omega

/-- the document's parts -/
def parts (n m s : Int) : Value := if may n m s = true then .agg #[.int .i64 16, .int .i64 (16 + m * 8), .int .i64 (bmAt n m), .int .i64 (bkAt n m), .int .i64 (fin n m s)] else .agg #[.int .i64 0, .int .i64 0, .int .i64 0, .int .i64 0, .int .i64 0]
theorem parts_yes {n m s : Int} (h : may n m s = true) : parts n m s = .agg #[.int .i64 16, .int .i64 (16 + m * 8), .int .i64 (bmAt n m), .int .i64 (bkAt n m), .int .i64 (fin n m s)] := if_pos h
theorem parts_no {n m s : Int} (h : may n m s = false) : parts n m s = .agg #[.int .i64 0, .int .i64 0, .int .i64 0, .int .i64 0, .int .i64 0] := if_neg (by simp [h])

theorem size_at {p s : Int} (h1 : Sz p) (h2 : p = 64 ∨ p < 2 * s) (h3 : ¬ (p < 4096 ∧ p < s)) (h4 : Sz s) : p = s := by
  unfold Sz at h1 h4
  omega
theorem fill_bm (w : World) (n m : Int) (n1 : 1 ≤ n) (n2 : n ≤ 65534) (m1 : 1 ≤ m) (m2 : m ≤ 65534) :
    Calls Tryz.prog 127 #[.int .i64 (16 + 8 * m + n)] w fun r w' => r = .returned (.int .i64 (bmAt n m)) ∧ w = w' := by
  have e : lines (16 + 8 * m + n) = bmAt n m := by unfold bmAt lines; omega
  have := fill_any w (16 + 8 * m + n) (by omega) (by omega)
  rwa [e] at this
theorem fill_bk (w : World) (n m : Int) (n1 : 1 ≤ n) (n2 : n ≤ 65534) (m1 : 1 ≤ m) (m2 : m ≤ 65534) :
    Calls Tryz.prog 127 #[.int .i64 (bmAt n m + (n + 63) / 64)] w fun r w' => r = .returned (.int .i64 (bkAt n m)) ∧ w = w' := by
  have e : lines (bmAt n m + (n + 63) / 64) = bkAt n m := by unfold bkAt bmAt lines; omega
  have hb := bm_bounds ⟨n1, n2⟩ ⟨m1, m2⟩
  have := fill_any w (bmAt n m + (n + 63) / 64) (by omega) (by omega)
  rwa [e] at this

set_option maxHeartbeats 2000000 in
theorem of_any (w : World) (n m s : Int) :
    Calls Tryz.prog 88 #[.int .i64 n, .int .i64 m, .int .i64 s] w fun r w' => r = .returned (.tuple #[parts n m s, .bool (may n m s)]) ∧ Below w.heap.size w w' := by
  by_cases h : (1 ≤ n ∧ n ≤ 65534) ∧ (1 ≤ m ∧ m ≤ 65534)
  · obtain ⟨⟨n1, n2⟩, m1, m2⟩ := h
    go_enter Tryz.func88, Tryz.ntmps88
    go_wp2
    go_loop [8] (fun v => ∃ p : Int, Sz p ∧ (p = 64 ∨ p < 2 * s) ∧ v = .int .i64 p) (fun v => (4096 - intOf v).toNat)
    case atStart => exact ⟨64, .inl rfl, .inl rfl, rfl⟩
    case round =>
      obtain ⟨p, hp1, hp2, rfl⟩ := hrel
      by_cases hc : p < 4096 ∧ p < s
      · obtain ⟨c1, c2⟩ := hc
        have hb := hp1.bounds
        have hq : Sz (2 * p) := by unfold Sz at hp1 ⊢; omega
        have HQ := Lib.hid hq
        clear hp1 hp2 hq
        go_wp2
        go_round
        case rel => exact ⟨2 * p, HQ.out, .inr (by omega), rfl⟩
        case measure => simp [intOf]; omega
      · by_cases hs : Sz s
        · obtain rfl := size_at hp1 hp2 hc hs
          have hl : ¬ p < p := by omega
          have hb := hp1.bounds
          have HS := Lib.hid hp1
          have hf := fin_bounds ⟨n1, n2⟩ ⟨m1, m2⟩ hp1
          have hbm := bm_bounds ⟨n1, n2⟩ ⟨m1, m2⟩
          have hbk := bk_bounds ⟨n1, n2⟩ ⟨m1, m2⟩
          have e : n * p / 8 = n * (p / 8) := by
            have : n * p = n * (p / 8) * 8 := by rw [Int.mul_assoc, hb.2.2.2.2]
            omega
          have hnp : 0 ≤ n * p ∧ n * p ≤ 300000000 := by omega
          have hbm1 : 0 ≤ bmAt n m := by omega
          have hbm2 : bmAt n m ≤ 600000 := by omega
          have hbk1 : 0 ≤ bkAt n m := by omega
          have hbk2 : bkAt n m ≤ 610000 := by omega
          have HE := Lib.hid (show bkAt n m + n * p / 8 = fin n m p by rw [e]; rfl)
          have HC := Lib.hid (Int.mul_comm 8 m)
          have HF1 := Lib.hid (fun w => fill_bm w n m n1 n2 m1 m2)
          have HF2 := Lib.hid (fun w => fill_bk w n m n1 n2 m1 m2)
          clear hp1 hp2 hs hc hf hbm hbk e hb
          by_cases hlt : fin n m p ≤ 4194304
          · have HM := Lib.hid (may_yes ⟨⟨⟨n1, n2⟩, ⟨m1, m2⟩, HS.out⟩, hlt⟩)
            have hlt' : ¬ 4194304 < bkAt n m + n * p / 8 := by rw [HE.out]; omega
            clear hlt
            go_wp2_with (first
              | (go_at_call 127; with_reducible refine (HF1.out _).mono ?_; rintro e w' ⟨rfl, rfl⟩)
              | (go_at_call 127; with_reducible refine (HF2.out _).mono ?_; rintro e w' ⟨rfl, rfl⟩))
            all_goals
              refine bodyPost_ret (v := .tuple #[parts n m p, .bool (may n m p)]) ?_ rfl ⟨rfl, ?_⟩
              · rw [parts_yes HM.out, HM.out, ← HE.out, ← HC.out]; simp [results, Tryz.results88, go_sem]
              · exact ((Below.refl _ _).alloc (Nat.le_refl _) _).alloc (by simp) _
          · have HM := Lib.hid (may_no (n := n) (m := m) (s := p) (fun h => hlt h.2))
            have hlt' : 4194304 < bkAt n m + n * p / 8 := by rw [HE.out]; omega
            clear hlt
            go_wp2_with (first
              | (go_at_call 127; with_reducible refine (HF1.out _).mono ?_; rintro e w' ⟨rfl, rfl⟩)
              | (go_at_call 127; with_reducible refine (HF2.out _).mono ?_; rintro e w' ⟨rfl, rfl⟩))
            all_goals
              refine bodyPost_ret (v := .tuple #[parts n m p, .bool (may n m p)]) ?_ rfl ⟨rfl, ?_⟩
              · rw [parts_no HM.out, HM.out]; simp [results, Tryz.results88, go_sem]
              · exact ((Below.refl _ _).alloc (Nat.le_refl _) _).alloc (by simp) _
        · have hne : ¬ p = s := fun e => hs (e ▸ hp1)
          have HM := Lib.hid (may_no (n := n) (m := m) (s := s) (fun h => hs h.1.2.2))
          clear hp1 hp2 hs
          by_cases h4 : p < 4096
          · have hs : ¬ p < s := by omega
            clear hc
            go_wp2
            refine bodyPost_ret (v := .tuple #[parts n m s, .bool (may n m s)]) ?_ rfl ⟨rfl, ?_⟩
            · rw [parts_no HM.out, HM.out]; simp [results, Tryz.results88, go_sem]
            · exact (((Below.refl _ _).alloc (Nat.le_refl _) _))
          · clear hc
            go_wp2
            refine bodyPost_ret (v := .tuple #[parts n m s, .bool (may n m s)]) ?_ rfl ⟨rfl, ?_⟩
            · rw [parts_no HM.out, HM.out]; simp [results, Tryz.results88, go_sem]
            · exact (((Below.refl _ _).alloc (Nat.le_refl _) _))
  · have HM := Lib.hid (may_no (n := n) (m := m) (s := s) (fun h' => h ⟨h'.1.1, h'.1.2.1⟩))
    by_cases h1 : n < 1
    · go_enter Tryz.func88, Tryz.ntmps88
      go_wp2
      refine bodyPost_ret (v := .tuple #[parts n m s, .bool (may n m s)]) ?_ rfl ⟨rfl, ?_⟩
      · rw [parts_no HM.out, HM.out]; simp [results, Tryz.results88, go_sem]
      · exact (((Below.refl _ _).alloc (Nat.le_refl _) _))
    · by_cases h2 : 65534 < n
      · go_enter Tryz.func88, Tryz.ntmps88
        go_wp2
        refine bodyPost_ret (v := .tuple #[parts n m s, .bool (may n m s)]) ?_ rfl ⟨rfl, ?_⟩
        · rw [parts_no HM.out, HM.out]; simp [results, Tryz.results88, go_sem]
        · exact (((Below.refl _ _).alloc (Nat.le_refl _) _))
      · by_cases h3 : m < 1
        · go_enter Tryz.func88, Tryz.ntmps88
          go_wp2
          refine bodyPost_ret (v := .tuple #[parts n m s, .bool (may n m s)]) ?_ rfl ⟨rfl, ?_⟩
          · rw [parts_no HM.out, HM.out]; simp [results, Tryz.results88, go_sem]
          · exact (((Below.refl _ _).alloc (Nat.le_refl _) _))
        · have h4 : 65534 < m := by omega
          clear h
          go_enter Tryz.func88, Tryz.ntmps88
          go_wp2
          refine bodyPost_ret (v := .tuple #[parts n m s, .bool (may n m s)]) ?_ rfl ⟨rfl, ?_⟩
          · rw [parts_no HM.out, HM.out]; simp [results, Tryz.results88, go_sem]
          · exact (((Below.refl _ _).alloc (Nat.le_refl _) _))
end Geo
end Go.Proofs.YtleehhpodgbomaaGreatDoor
/- Sums that take bits from the lowest on, as numbers: what a row of bytes sums to, and that neighbouring bits which are turned are told. -/
namespace Go.Proofs.YtleehhpodgbomaaGreatDoor
namespace Crc

/-- one step of the sum: the lowest bit falls off -/
def A (p x : Nat) : Nat := x / 2 ^^^ (if x % 2 = 1 then p else 0)

/-- so many steps -/
def it (p : Nat) : Nat → Nat → Nat
  | 0, x => x
  | k + 1, x => it p k (A p x)

theorem half_xor (x y : Nat) : (x ^^^ y) / 2 = x / 2 ^^^ y / 2 := by
  apply Nat.eq_of_testBit_eq
  intro i
  rw [Nat.testBit_div_two, Nat.testBit_xor, Nat.testBit_xor, Nat.testBit_div_two, Nat.testBit_div_two]

theorem odd_xor (x y : Nat) : (x ^^^ y) % 2 = (x % 2 + y % 2) % 2 := by
  have h : (x ^^^ y).testBit 0 = (x.testBit 0 ^^ y.testBit 0) := Nat.testBit_xor ..
  simp only [Nat.testBit_zero] at h
  rcases Nat.mod_two_eq_zero_or_one x with hx | hx <;> rcases Nat.mod_two_eq_zero_or_one y with hy | hy <;> rcases Nat.mod_two_eq_zero_or_one (x ^^^ y) with hz | hz <;> simp [hx, hy, hz] at h ⊢

theorem A_xor (p x y : Nat) : A p (x ^^^ y) = A p x ^^^ A p y := by
  unfold A
  rw [half_xor, odd_xor]
  generalize x / 2 = a
  generalize y / 2 = b
  apply Nat.eq_of_testBit_eq
  intro i
  rcases Nat.mod_two_eq_zero_or_one x with hx | hx <;> rcases Nat.mod_two_eq_zero_or_one y with hy | hy <;> simp [hx, hy, Nat.testBit_xor] <;> cases a.testBit i <;> cases b.testBit i <;> cases p.testBit i <;> rfl

theorem A_double (p x : Nat) : A p (x * 2) = x := by
  unfold A
  simp

theorem A_zero (p : Nat) : A p 0 = 0 := by simp [A]

theorem it_xor (p k : Nat) : ∀ x y, it p k (x ^^^ y) = it p k x ^^^ it p k y := by
  induction k with
  | zero => exact fun _ _ => rfl
  | succ k ih => exact fun x y => by simp only [it]; rw [A_xor, ih]

theorem it_zero (p k : Nat) : it p k 0 = 0 := by
  induction k with
  | zero => rfl
  | succ k ih => simp only [it]; rw [A_zero, ih]

theorem it_add (p a b : Nat) : ∀ x, it p (a + b) x = it p b (it p a x) := by
  induction a with
  | zero => intro x; rw [Nat.zero_add]; rfl
  | succ a ih => intro x; rw [Nat.succ_add]; simp only [it]; exact ih _

theorem it_last (p k x : Nat) : it p (k + 1) x = A p (it p k x) := by rw [it_add]; rfl

theorem it_shift (p k : Nat) : ∀ x, it p k (x * 2 ^ k) = x := by
  induction k with
  | zero => intro x; simp [it]
  | succ k ih =>
    intro x
    simp only [it]
    rw [Nat.pow_succ, ← Nat.mul_assoc, A_double, ih]

theorem A_lt {p x w : Nat} (hp : p < 2 ^ w) (hx : x < 2 ^ w) : A p x < 2 ^ w := by
  unfold A
  refine Nat.xor_lt_two_pow (by omega) ?_
  split <;> omega

theorem A_ne {p x w : Nat} (hp : p.testBit w = true) (hx : x < 2 ^ (w + 1)) (h0 : x ≠ 0) : A p x ≠ 0 := by
  unfold A
  intro h
  split at h
  · have h1 : (x / 2 ^^^ p).testBit w = false := by rw [h]; simp
    rw [Nat.testBit_xor, hp, Nat.testBit_lt_two_pow (by rw [Nat.pow_succ] at hx; omega)] at h1
    simp at h1
  · simp at h
    omega

theorem it_lt {p w : Nat} (hp : p < 2 ^ w) (k : Nat) : ∀ x, x < 2 ^ w → it p k x < 2 ^ w := by
  induction k with
  | zero => exact fun _ h => h
  | succ k ih => exact fun x h => ih _ (A_lt hp h)

theorem it_ne {p w : Nat} (hp : p < 2 ^ (w + 1)) (ht : p.testBit w = true) (k : Nat) : ∀ x, x < 2 ^ (w + 1) → x ≠ 0 → it p k x ≠ 0 := by
  induction k with
  | zero => exact fun _ _ h => h
  | succ k ih => exact fun x h h0 => ih _ (A_lt hp h) (A_ne ht h h0)

/-- the sum with one byte more -/
def nx (p r b : Nat) : Nat := it p 8 (r ^^^ b)

/-- the sum of bytes behind what was summed -/
def sm (p r : Nat) (l : List Nat) : Nat := l.foldl (nx p) r

/-- bytes as one number, the lowest first -/
def le : List Nat → Nat
  | [] => 0
  | b :: l => b + 256 * le l

/-- all are bytes -/
def Byt (l : List Nat) : Prop := ∀ b ∈ l, b < 256

theorem Byt.cons {b : Nat} {l : List Nat} (h : Byt (b :: l)) : b < 256 ∧ Byt l := ⟨h b (List.mem_cons_self ..), fun c hc => h c (List.mem_cons_of_mem _ hc)⟩

theorem bit_cons {b : Nat} (hb : b < 256) (x i : Nat) : (b + 256 * x).testBit i = if i < 8 then b.testBit i else x.testBit (i - 8) := by
  rw [Nat.add_comm]
  exact Nat.testBit_two_pow_mul_add x (i := 8) (by omega) i

theorem cons_xor {b : Nat} (hb : b < 256) (x : Nat) : b + 256 * x = b ^^^ x * 2 ^ 8 := by
  apply Nat.eq_of_testBit_eq
  intro i
  rw [bit_cons hb, Nat.testBit_xor, Nat.testBit_mul_two_pow]
  by_cases h : i < 8
  · simp [h, Nat.not_le.2 h]
  · have h8 : b.testBit i = false := Nat.testBit_lt_two_pow (Nat.lt_of_lt_of_le hb (Nat.pow_le_pow_right (n := 2) (by omega) (by omega : 8 ≤ i)))
    simp [h, h8, Nat.not_lt.1 h]

theorem sm_eq (p : Nat) (l : List Nat) : ∀ r, Byt l → sm p r l = it p (8 * l.length) (r ^^^ le l) := by
  induction l with
  | nil => intro r _; simp [sm, le, it]
  | cons b l ih =>
    intro r h
    have hb := h.cons
    have e : sm p r (b :: l) = sm p (nx p r b) l := rfl
    rw [e, ih _ hb.2]
    have e2 : 8 * (b :: l).length = 8 + 8 * l.length := by rw [List.length_cons]; omega
    rw [e2, it_add]
    congr 1
    show nx p r b ^^^ le l = it p 8 (r ^^^ (b + 256 * le l))
    rw [cons_xor hb.1, ← Nat.xor_assoc, it_xor, it_shift]
    rfl

theorem sm_append (p r : Nat) (l m : List Nat) : sm p r (l ++ m) = sm p (sm p r l) m := List.foldl_append ..

theorem bit_le (l : List Nat) : ∀ i, Byt l → i < 8 * l.length → (le l).testBit i = (l[i / 8]?.getD 0).testBit (i % 8) := by
  induction l with
  | nil => intro i _ h; simp at h
  | cons b l ih =>
    intro i h hi
    have hb := h.cons
    show (b + 256 * le l).testBit i = _
    rw [bit_cons hb.1]
    by_cases h8 : i < 8
    · have e0 : i / 8 = 0 := by omega
      have e1 : i % 8 = i := by omega
      simp [h8, e0, e1]
    · rw [List.length_cons] at hi
      have e0 : i / 8 = (i - 8) / 8 + 1 := by omega
      have e1 : i % 8 = (i - 8) % 8 := by omega
      rw [if_neg h8, ih _ hb.2 (by omega), e0, e1, List.getElem?_cons_succ]

theorem le_lt (l : List Nat) : Byt l → le l < 2 ^ (8 * l.length) := by
  induction l with
  | nil => intro _; simp [le]
  | cons b l ih =>
    intro h
    have hb := h.cons
    have := ih hb.2
    show b + 256 * le l < _
    have e2 : 8 * (b :: l).length = 8 + 8 * l.length := by rw [List.length_cons]; omega
    rw [e2, Nat.pow_add]
    have := hb.1
    have : 2 ^ 8 = 256 := rfl
    omega

/-- one bit turned -/
theorem le_set (l : List Nat) : ∀ j t, Byt l → j < l.length → t < 8 → le (l.set j (l[j]?.getD 0 ^^^ 2 ^ t)) = le l ^^^ 2 ^ (8 * j + t) := by
  induction l with
  | nil => intro j t _ h; simp at h
  | cons b l ih =>
    intro j t h hj ht
    have hb := h.cons
    have hx : b ^^^ 2 ^ t < 256 := Nat.xor_lt_two_pow (n := 8) (by have := hb.1; omega) (Nat.pow_lt_pow_right (by omega) ht)
    cases j with
    | zero =>
      show (b ^^^ 2 ^ t) + 256 * le l = (b + 256 * le l) ^^^ 2 ^ (8 * 0 + t)
      rw [cons_xor hx, cons_xor hb.1, Nat.xor_assoc, Nat.xor_assoc, Nat.mul_zero, Nat.zero_add, Nat.xor_comm (2 ^ t)]
    | succ j =>
      rw [List.length_cons] at hj
      have e := ih j t hb.2 (by omega) ht
      rw [List.set_cons_succ, List.getElem?_cons_succ]
      show b + 256 * le (l.set j (l[j]?.getD 0 ^^^ 2 ^ t)) = (b + 256 * le l) ^^^ 2 ^ (8 * (j + 1) + t)
      rw [e, cons_xor hb.1, cons_xor hb.1, Nat.xor_assoc]
      congr 1
      have e3 : 2 ^ (8 * (j + 1) + t) = 2 ^ (8 * j + t) * 2 ^ 8 := by rw [← Nat.pow_add]; congr 1; omega
      rw [e3]
      apply Nat.eq_of_testBit_eq
      intro i
      simp only [Nat.testBit_mul_two_pow, Nat.testBit_xor]
      by_cases h8 : 8 ≤ i <;> simp [h8]

/-- neighbouring bits that are turned are told -/
theorem burst {p w : Nat} (hp : p < 2 ^ (w + 1)) (ht : p.testBit w = true) (r f m : Nat) (b c : List Nat) (hb : Byt b) (hc : Byt c) (hl : c.length = b.length) (hm : m < 2 ^ (w + 1)) (h0 : m ≠ 0) (hf : f ≤ 8 * b.length) (he : le c = le b ^^^ m * 2 ^ f) : sm p r c ≠ sm p r b := by
  rw [sm_eq p c r hc, sm_eq p b r hb, hl, he, ← Nat.xor_assoc, it_xor]
  intro h
  have h1 : it p (8 * b.length) (m * 2 ^ f) = 0 := by
    have := congrArg (it p (8 * b.length) (r ^^^ le b) ^^^ ·) h
    simpa [← Nat.xor_assoc] using this
  obtain ⟨k, hk⟩ : ∃ k, 8 * b.length = f + k := ⟨8 * b.length - f, by omega⟩
  rw [hk, it_add, it_shift] at h1
  exact it_ne hp ht k m hm h0 h1

/-- the sum, bit by bit -/
def ser (p r M : Nat) : Nat → Nat
  | 0 => r
  | k + 1 => A p (ser p r M k ^^^ (M / 2 ^ k % 2))

theorem ser_inv (p r M : Nat) : ∀ k, ser p r M k ^^^ M / 2 ^ k = it p k (r ^^^ M) := by
  intro k
  induction k with
  | zero => simp [ser, it]
  | succ k ih =>
    rw [it_last, ← ih]
    have e : M / 2 ^ k = (M / 2 ^ k % 2) ^^^ (M / 2 ^ (k + 1)) * 2 := by
      rw [Nat.pow_succ, ← Nat.div_div_eq_div_mul]
      generalize M / 2 ^ k = y
      apply Nat.eq_of_testBit_eq
      intro i
      have h2 : y / 2 * 2 = y / 2 * 2 ^ 1 := rfl
      rw [Nat.testBit_xor, h2, Nat.testBit_mul_two_pow, Nat.testBit_div_two]
      cases i with
      | zero => simp [Nat.testBit_zero]
      | succ i =>
        have h3 : (y % 2).testBit (i + 1) = false := Nat.testBit_lt_two_pow (Nat.lt_of_lt_of_le (Nat.mod_lt y (by omega)) (Nat.pow_le_pow_right (n := 2) (by omega) (by omega : 1 ≤ i + 1)))
        simp [h3]
    show A p (ser p r M k ^^^ (M / 2 ^ k % 2)) ^^^ M / 2 ^ (k + 1) = _
    conv => rhs; rw [e]
    rw [← Nat.xor_assoc, A_xor p (_ ^^^ _), A_double]

/-- of all bits -/
theorem ser_sm (p r : Nat) (l : List Nat) (h : Byt l) : ser p r (le l) (8 * l.length) = sm p r l := by
  have := ser_inv p r (le l) (8 * l.length)
  rw [Nat.div_eq_of_lt (le_lt l h), Nat.xor_zero] at this
  rw [this, sm_eq p l r h]
end Crc
end Go.Proofs.YtleehhpodgbomaaGreatDoor
/- Bits the other way round: the sum that takes bits from the highest on. -/
namespace Go.Proofs.YtleehhpodgbomaaGreatDoor
namespace Crc

/-- so many bits, the other way round -/
def rev : Nat → Nat → Nat
  | 0, _ => 0
  | w + 1, x => 2 ^ w * (x % 2) + rev w (x / 2)

theorem rev_lt (w : Nat) : ∀ x, rev w x < 2 ^ w := by
  induction w with
  | zero => intro x; simp [rev]
  | succ w ih =>
    intro x
    have h1 := ih (x / 2)
    have h2 : x % 2 < 2 := Nat.mod_lt _ (by omega)
    simp only [rev]
    rw [Nat.pow_succ]
    rcases Nat.mod_two_eq_zero_or_one x with h | h <;> rw [h] <;> omega

theorem bit_rev (w : Nat) : ∀ x i, (rev w x).testBit i = (decide (i < w) && x.testBit (w - 1 - i)) := by
  induction w with
  | zero => intro x i; simp [rev]
  | succ w ih =>
    intro x i
    simp only [rev]
    rw [Nat.testBit_two_pow_mul_add _ (rev_lt w _), ih]
    by_cases h : i < w
    · have e : w + 1 - 1 - i = w - 1 - i + 1 := by omega
      have h1 : i < w + 1 := by omega
      rw [if_pos h, e, Nat.testBit_add_one]
      simp [h, h1]
    · rw [if_neg h]
      by_cases h1 : i = w
      · subst h1
        simp
      · have h2 : ¬ i < w + 1 := by omega
        have h3 : (x % 2).testBit (i - w) = false := Nat.testBit_lt_two_pow (Nat.lt_of_lt_of_le (Nat.mod_lt x (by omega)) (Nat.pow_le_pow_right (n := 2) (by omega) (by omega : 1 ≤ i - w)))
        simp [h2, h3]

theorem rev_xor (w x y : Nat) : rev w (x ^^^ y) = rev w x ^^^ rev w y := by
  apply Nat.eq_of_testBit_eq
  intro i
  simp only [bit_rev, Nat.testBit_xor]
  by_cases h : i < w <;> simp [h]

theorem rev_rev {w x : Nat} (hx : x < 2 ^ w) : rev w (rev w x) = x := by
  apply Nat.eq_of_testBit_eq
  intro i
  simp only [bit_rev]
  by_cases h : i < w
  · have h1 : w - 1 - i < w := by omega
    have e : w - 1 - (w - 1 - i) = i := by omega
    simp [h, h1, e]
  · have h1 : x.testBit i = false := Nat.testBit_lt_two_pow (Nat.lt_of_lt_of_le hx (Nat.pow_le_pow_right (n := 2) (by omega) (by omega : w ≤ i)))
    simp [h, h1]

theorem rev_inj {w x y : Nat} (hx : x < 2 ^ w) (hy : y < 2 ^ w) (h : rev w x = rev w y) : x = y := by
  rw [← rev_rev hx, h, rev_rev hy]

theorem rev_byte {b : Nat} (hb : b < 256) : rev 16 (rev 8 b) = b * 256 := by
  apply Nat.eq_of_testBit_eq
  intro i
  have e : b * 256 = b * 2 ^ 8 := rfl
  rw [e, Nat.testBit_mul_two_pow]
  simp only [bit_rev]
  by_cases h : i < 16
  · by_cases h1 : 8 ≤ i
    · have e1 : 8 - 1 - (16 - 1 - i) = i - 8 := by omega
      have h2 : 16 - 1 - i < 8 := by omega
      simp only [h, h1, h2, e1, decide_true, Bool.true_and]
    · have h2 : ¬ 16 - 1 - i < 8 := by omega
      simp only [h, h1, h2, decide_true, decide_false, Bool.true_and, Bool.false_and]
  · have h1 : b.testBit (i - 8) = false := Nat.testBit_lt_two_pow (Nat.lt_of_lt_of_le (show b < 2 ^ 8 from hb) (Nat.pow_le_pow_right (n := 2) (by omega) (by omega : 8 ≤ i - 8)))
    simp [h, h1]

theorem rev_half {q : Nat} (hq : q < 65536) : rev 16 q * 2 % 65536 = rev 16 (q / 2) := by
  apply Nat.eq_of_testBit_eq
  intro i
  have e0 : (65536 : Nat) = 2 ^ 16 := rfl
  have e1 : rev 16 q * 2 = rev 16 q * 2 ^ 1 := rfl
  rw [e0, Nat.testBit_mod_two_pow, e1, Nat.testBit_mul_two_pow]
  simp only [bit_rev]
  by_cases h : i < 16
  · rw [Nat.testBit_div_two]
    cases i with
    | zero =>
      have h1 : q.testBit 16 = false := Nat.testBit_lt_two_pow hq
      simp [h1]
    | succ i =>
      have h1 : i < 16 := by omega
      have e2 : 16 - 1 - i = 16 - 1 - (i + 1) + 1 := by omega
      simp [h, h1, e2]
  · simp [h]

theorem rev_top (q : Nat) : rev 16 q / 32768 = q % 2 := by
  have h := rev_lt 15 (q / 2)
  have e : rev 16 q = 2 ^ 15 * (q % 2) + rev 15 (q / 2) := rfl
  rw [e]
  have : (2 : Nat) ^ 15 = 32768 := rfl
  omega

def P16 : Nat := 33800

theorem step_rev {q : Nat} (hq : q < 65536) : rev 16 q * 2 % 65536 ^^^ (if q % 2 = 1 then 4129 else 0) = rev 16 (A P16 q) := by
  unfold A
  rw [rev_xor, rev_half hq]
  congr 1
  split <;> decide

theorem rev_bit : ∀ t, t < 8 → rev 8 (2 ^ (7 - t)) = 2 ^ t := by decide

/-- one bit of a byte turned, the other way round -/
theorem rev_turn {x t : Nat} (ht : t < 8) : rev 8 (x ^^^ 2 ^ (7 - t)) = rev 8 x ^^^ 2 ^ t := by rw [rev_xor, rev_bit t ht]
end Crc
end Go.Proofs.YtleehhpodgbomaaGreatDoor
/- The program's own steps: a byte more. -/
namespace Go.Proofs.YtleehhpodgbomaaGreatDoor
open Go.RowKit Go.MapKept
namespace Crc

def P32 : Nat := 3988292384

theorem mask32 (p e : Nat) (hp : p < 4294967296) (he : e = 0 ∨ e = 1) : bits .and .u32 (p : Int) (IntKind.wrap .u32 (-(e : Int))) = (((if e = 1 then p else 0 : Nat)) : Int) := by
  rcases he with rfl | rfl
  · have h : IntKind.wrap .u32 (-((0 : Nat) : Int)) = ((0 : Nat) : Int) := by rw [IntKind.wrap_u32']; rfl
    rw [h, u32_and_nat p 0 hp (by omega)]
    simp
  · have h : IntKind.wrap .u32 (-((1 : Nat) : Int)) = ((4294967295 : Nat) : Int) := by rw [IntKind.wrap_u32']; rfl
    have h2 : p &&& 4294967295 = p % 4294967296 := Nat.and_two_pow_sub_one_eq_mod p 32
    rw [h, u32_and_nat p _ hp (by omega), h2, Nat.mod_eq_of_lt hp]
    simp

theorem mask16 (p e : Nat) (hp : p < 65536) (he : e = 0 ∨ e = 1) : bits .and .u16 (p : Int) (IntKind.wrap .u16 (-(e : Int))) = (((if e = 1 then p else 0 : Nat)) : Int) := by
  rcases he with rfl | rfl
  · have h : IntKind.wrap .u16 (-((0 : Nat) : Int)) = ((0 : Nat) : Int) := by rw [IntKind.wrap_u16]; rfl
    rw [h, u16_and_nat p 0 hp (by omega)]
    simp
  · have h : IntKind.wrap .u16 (-((1 : Nat) : Int)) = ((65535 : Nat) : Int) := by rw [IntKind.wrap_u16]; rfl
    have h2 : p &&& 65535 = p % 65536 := Nat.and_two_pow_sub_one_eq_mod p 16
    rw [h, u16_and_nat p _ hp (by omega), h2, Nat.mod_eq_of_lt hp]
    simp

theorem step32 (x : Nat) (hx : x < 4294967296) : bits .xor .u32 ((x : Int) / 2) (bits .and .u32 3988292384 (IntKind.wrap .u32 (-(bits .and .u32 (x : Int) 1)))) = ((A P32 x : Nat) : Int) := by
  have h1 : bits .and .u32 (x : Int) 1 = ((x % 2 : Nat) : Int) := by
    have := u32_and_nat x 1 hx (by omega)
    rw [nat_mask1] at this
    exact this
  rw [h1]
  have h2 := mask32 3988292384 (x % 2) (by omega) (by omega)
  rw [show ((3988292384 : Nat) : Int) = (3988292384 : Int) from rfl] at h2
  rw [h2, show (x : Int) / 2 = ((x / 2 : Nat) : Int) from rfl, u32_xor_nat _ _ (by omega) (by split <;> omega)]
  rfl

theorem step16 (q : Nat) (hq : q < 65536) : bits .xor .u16 (IntKind.wrap .u16 (((rev 16 q : Nat) : Int) * 2)) (bits .and .u16 4129 (IntKind.wrap .u16 (-(((rev 16 q : Nat) : Int) / 32768)))) = ((rev 16 (A P16 q) : Nat) : Int) := by
  have h1 : ((rev 16 q : Nat) : Int) / 32768 = ((q % 2 : Nat) : Int) := by rw [← rev_top]; rfl
  have h0 : IntKind.wrap .u16 (((rev 16 q : Nat) : Int) * 2) = ((rev 16 q * 2 % 65536 : Nat) : Int) := by rw [IntKind.wrap_u16]; omega
  have h2 := mask16 4129 (q % 2) (by omega) (by omega)
  rw [show ((4129 : Nat) : Int) = (4129 : Int) from rfl] at h2
  rw [h1, h2, h0, u16_xor_nat _ _ (by omega) (by split <;> omega), step_rev hq]

theorem it32_lt {x : Nat} (hx : x < 4294967296) (k : Nat) : it P32 k x < 4294967296 := it_lt (w := 32) (by decide) k x hx
theorem it16_lt {x : Nat} (hx : x < 65536) (k : Nat) : it P16 k x < 65536 := it_lt (w := 16) (by decide) k x hx

set_option maxHeartbeats 800000 in
theorem next32_any (w : World) (r b : Nat) (hr : r < 4294967296) (hb : b < 256) :
    Calls Tryz.prog 139 #[.int .u32 (r : Int), .int .u8 (b : Int)] w fun e w' => e = .returned (.int .u32 (nx P32 r b : Nat)) ∧ w = w' := by
  have hx : bits .xor .u32 (r : Int) (b : Int) = ((r ^^^ b : Nat) : Int) := u32_xor_nat r b hr (by omega)
  have hlt : r ^^^ b < 4294967296 := Nat.xor_lt_two_pow (n := 32) hr (by omega)
  go_enter Tryz.func139, Tryz.ntmps139
  go_wp2
  go_loopw [0, 9] (fun s i wr => ∃ m : Nat, m ≤ 8 ∧ i = .int .i64 (m : Int) ∧ s = .int .u32 ((it P32 m (r ^^^ b) : Nat) : Int) ∧ wr = w) (fun _ i _ => 8 - (intOf i).toNat)
  case atStart => exact ⟨0, by omega, rfl, rfl, rfl⟩
  case round =>
    obtain ⟨m, hm, rfl, rfl, rfl⟩ := hrel
    have hs := step32 _ (it32_lt hlt m)
    rw [← it_last, IntKind.wrap_u32'] at hs
    by_cases h8 : m < 8
    · go_wp2
      exact ⟨⟨m + 1, by omega, by go_num, rfl, trivial⟩, by simp [intOf]; omega⟩
    · obtain rfl : m = 8 := by omega
      clear hs
      go_wp2
      go_ret
      exact ⟨rfl, rfl⟩

set_option maxHeartbeats 800000 in
theorem next16_any (w : World) (q b : Nat) (hq : q < 65536) (hb : b < 256) :
    Calls Tryz.prog 102 #[.int .u16 ((rev 16 q : Nat) : Int), .int .u8 (b : Int)] w fun e w' => e = .returned (.int .u16 (rev 16 (nx P16 q (rev 8 b)) : Nat)) ∧ w = w' := by
  have hv : rev 8 b < 256 := rev_lt 8 b
  have hlt : q ^^^ rev 8 b < 65536 := Nat.xor_lt_two_pow (n := 16) hq (by omega)
  have hx : bits .xor .u16 ((rev 16 q : Nat) : Int) ((b : Int) * 256) = ((rev 16 (q ^^^ rev 8 b) : Nat) : Int) := by
    have h0 : (b : Int) * 256 = ((b * 256 : Nat) : Int) := by omega
    rw [h0, u16_xor_nat _ _ (rev_lt 16 q) (by omega), rev_xor, rev_byte hb]
  go_enter Tryz.func102, Tryz.ntmps102
  go_wp2
  go_loopw [0, 10] (fun s i wr => ∃ m : Nat, m ≤ 8 ∧ i = .int .i64 (m : Int) ∧ s = .int .u16 ((rev 16 (it P16 m (q ^^^ rev 8 b)) : Nat) : Int) ∧ wr = w) (fun _ i _ => 8 - (intOf i).toNat)
  case atStart => exact ⟨0, by omega, rfl, rfl, rfl⟩
  case round =>
    obtain ⟨m, hm, rfl, rfl, rfl⟩ := hrel
    have hs := step16 _ (it16_lt hlt m)
    rw [← it_last] at hs
    by_cases h8 : m < 8
    · go_wp2
      exact ⟨⟨m + 1, by omega, by go_num, rfl, trivial⟩, by simp [intOf]; omega⟩
    · obtain rfl : m = 8 := by omega
      clear hs
      go_wp2
      go_ret
      exact ⟨rfl, rfl⟩
end Crc
end Go.Proofs.YtleehhpodgbomaaGreatDoor
/- Bytes and parts as they lie in memory, and the program's sums of them. -/
namespace Go.Proofs.YtleehhpodgbomaaGreatDoor
open Go.RowKit Go.MapKept
namespace Crc

/-- these bytes lie at A -/
structure Bts (w : World) (A : Option Addr) (l : List Nat) : Prop where
  byt : Byt l
  len : l.length ≤ 9223372036854775807
  at' : ∀ j (h : j < l.length), ∃ b o, A = some ⟨b, o, none⟩ ∧ b < w.heap.size ∧ w.cell? ⟨b, o + j, none⟩ = some (.int .u8 (l[j] : Int))

/-- a part -/
structure Prt where
  a : Option Addr
  c : Nat
  l : List Nat

/-- these parts lie at A -/
structure Pts (w : World) (A : Option Addr) (ps : List Prt) : Prop where
  len : ps.length ≤ 9223372036854775807
  at' : ∀ i (h : i < ps.length), ∃ b o, A = some ⟨b, o, none⟩ ∧ b < w.heap.size ∧ w.cell? ⟨b, o + i, none⟩ = some (.slice ps[i].a ps[i].l.length ps[i].c)
  bts : ∀ i (h : i < ps.length), Bts w ps[i].a ps[i].l

/-- all bytes, one part behind the other -/
def flat (ps : List Prt) : List Nat := ps.flatMap Prt.l

theorem flat_take {ps : List Prt} {m : Nat} (h : m < ps.length) : flat (ps.take (m + 1)) = flat (ps.take m) ++ ps[m].l := by
  unfold flat
  rw [List.take_succ_eq_append_getElem h, List.flatMap_append]
  simp

theorem Pts.flat_byt {w : World} {A : Option Addr} {ps : List Prt} (h : Pts w A ps) : Byt (flat ps) := by
  intro b hb
  obtain ⟨q, hq, hb⟩ := List.mem_flatMap.1 hb
  obtain ⟨i, hi, rfl⟩ := List.getElem_of_mem hq
  exact (h.bts i hi).byt b hb

theorem Byt.take {l : List Nat} (h : Byt l) (n : Nat) : Byt (l.take n) := fun b hb => h b (List.mem_of_mem_take hb)
theorem Byt.append {l m : List Nat} (h : Byt l) (g : Byt m) : Byt (l ++ m) := fun b hb => (List.mem_append.1 hb).elim (h b) (g b)
theorem Byt.rev8 (l : List Nat) : Byt (l.map (rev 8)) := by
  intro b hb
  obtain ⟨x, _, rfl⟩ := List.mem_map.1 hb
  exact rev_lt 8 x

theorem nx32_lt {r b : Nat} (hr : r < 4294967296) (hb : b < 256) : nx P32 r b < 4294967296 := it32_lt (Nat.xor_lt_two_pow (n := 32) hr (by omega)) 8
theorem nx16_lt {r b : Nat} (hr : r < 65536) (hb : b < 256) : nx P16 r b < 65536 := it16_lt (Nat.xor_lt_two_pow (n := 16) hr (by omega)) 8

theorem sm32_lt (l : List Nat) : ∀ r, r < 4294967296 → Byt l → sm P32 r l < 4294967296 := by
  induction l with
  | nil => exact fun _ h _ => h
  | cons b l ih => exact fun r h hl => ih _ (nx32_lt h hl.cons.1) hl.cons.2
theorem sm16_lt (l : List Nat) : ∀ r, r < 65536 → Byt l → sm P16 r l < 65536 := by
  induction l with
  | nil => exact fun _ h _ => h
  | cons b l ih => exact fun r h hl => ih _ (nx16_lt h hl.cons.1) hl.cons.2

theorem sm_take {p r : Nat} {l : List Nat} {j : Nat} (h : j < l.length) : sm p r (l.take (j + 1)) = nx p (sm p r (l.take j)) l[j] := by
  rw [List.take_succ_eq_append_getElem h, sm_append]
  rfl

/-- the sums, as the document says them -/
def S32 (l : List Nat) : Nat := 4294967295 - sm P32 4294967295 l
def T16 (l : List Nat) : Nat := sm P16 65535 (l.map (rev 8))
def S16 (l : List Nat) : Nat := rev 16 (T16 l)

theorem inv32 (x : Nat) (hx : x < 4294967296) : bits .xor .u32 IntKind.u32.max (x : Int) = ((4294967295 - x : Nat) : Int) := by
  have h := u32_xor_nat 4294967295 x (by omega) hx
  have e : 4294967295 ^^^ x = 4294967295 - x := by
    apply Nat.eq_of_testBit_eq
    intro i
    have e1 : 4294967295 - x = 2 ^ 32 - (x + 1) := by omega
    have e2 : (4294967295 : Nat) = 2 ^ 32 - 1 := rfl
    rw [Nat.testBit_xor, e1, Nat.testBit_two_pow_sub_succ (show x < 2 ^ 32 from hx), e2, Nat.testBit_two_pow_sub_one]
    by_cases hi : i < 32
    · simp [hi]
    · have : x.testBit i = false := Nat.testBit_lt_two_pow (Nat.lt_of_lt_of_le (show x < 2 ^ 32 from hx) (Nat.pow_le_pow_right (n := 2) (by omega) (by omega : 32 ≤ i)))
      simp [hi, this]
  rw [e] at h
  exact h

section
variable {w : World}
set_option maxHeartbeats 1600000 in
set_option maxRecDepth 100000 in
theorem sum32_any (A : Option Addr) (c : Nat) (ps : List Prt) (h : Pts w A ps) :
    Calls Tryz.prog 118 #[.slice A ps.length c] w fun e w' => e = .returned (.int .u32 (S32 (flat ps) : Nat)) ∧ w = w' := by
  have hn := h.len
  have HF := Lib.hid h.flat_byt
  have H := Lib.hid h
  clear h
  have HN := Lib.hid (fun r b hr hb => next32_any w r b hr hb)
  go_enter Tryz.func118, Tryz.ntmps118
  go_wp2
  go_loopw [3, 10] (fun s i wr => ∃ m : Nat, m ≤ ps.length ∧ i = .int .i64 (m : Int) ∧ s = .int .u32 ((sm P32 4294967295 (flat (ps.take m)) : Nat) : Int) ∧ w = wr) (fun _ i _ => ps.length - (intOf i).toNat)
  case atStart => exact ⟨0, Nat.zero_le _, rfl, rfl, rfl⟩
  case round =>
    obtain ⟨m, hm, rfl, rfl, rfl⟩ := hrel
    by_cases hlt : m < ps.length
    · obtain ⟨b, o, rfl, hb, hcell⟩ := H.out.at' m hlt
      have hbt := H.out.bts m hlt
      have hbl := hbt.len
      have HB := Lib.hid hbt
      have hr0 : sm P32 4294967295 (flat (ps.take m)) < 4294967296 := sm32_lt _ _ (by omega) (fun x hx => by
        obtain ⟨q, hq, hx⟩ := List.mem_flatMap.1 hx
        obtain ⟨i, hi, rfl⟩ := List.getElem_of_mem (List.mem_of_mem_take hq)
        exact (H.out.bts i hi).byt x hx)
      have HR := Lib.hid (show sm P32 4294967295 (flat (ps.take (m + 1))) = sm P32 (sm P32 4294967295 (flat (ps.take m))) (ps[m].l) by rw [flat_take hlt, sm_append])
      generalize ps[m] = q at *
      generalize sm P32 4294967295 (flat (ps.take m)) = r0 at *
      obtain ⟨qa, qc, ql⟩ := q
      simp only at hcell hbl HB HR
      clear hbt
      go_wp2
      go_loopw [3, 16] (fun s i wr => ∃ j : Nat, j ≤ ql.length ∧ i = .int .i64 (j : Int) ∧ s = .int .u32 ((sm P32 r0 (ql.take j) : Nat) : Int) ∧ w = wr) (fun _ i _ => ql.length - (intOf i).toNat)
      case atStart => exact ⟨0, Nat.zero_le _, rfl, rfl, rfl⟩
      case round =>
        obtain ⟨j, hj, rfl, rfl, rfl⟩ := hrel
        by_cases hjl : j < ql.length
        · obtain ⟨b', o', rfl, hb', hc'⟩ := HB.out.at' j hjl
          have hbb : ql[j] < 256 := HB.out.byt _ (List.getElem_mem hjl)
          have hrj : sm P32 r0 (ql.take j) < 4294967296 := sm32_lt _ _ hr0 (HB.out.byt.take j)
          have hnx := HN.out _ _ hrj hbb
          have e : sm P32 r0 (ql.take (j + 1)) = nx P32 (sm P32 r0 (ql.take j)) (ql[j]) := sm_take hjl
          rw [← e] at hnx
          have HX := Lib.hid hnx
          clear hnx e
          go_wp2_with fail
          refine HX.out.mono ?_
          rintro e w' ⟨rfl, rfl⟩
          go_wp2
          exact ⟨⟨j + 1, by omega, by go_num, rfl, trivial⟩, by simp [intOf]; omega⟩
        · obtain rfl : j = ql.length := by omega
          rw [List.take_length, ← HR.out]
          go_wp2
          exact ⟨⟨m + 1, by omega, by go_num, rfl, trivial⟩, by simp [intOf]; omega⟩
    · obtain rfl : m = ps.length := by omega
      rw [List.take_length]
      have hi := inv32 _ (sm32_lt (flat ps) 4294967295 (by omega) HF.out)
      go_wp2
      go_ret
      exact ⟨rfl, rfl⟩

set_option maxHeartbeats 1600000 in
set_option maxRecDepth 100000 in
theorem sum16_gen (f g : Nat → Nat) (hf : f 65535 = 65535) (hg : ∀ b, g b < 256) (hN : ∀ r b : Nat, r < 65536 → b < 256 → Calls Tryz.prog 102 #[.int .u16 ((f r : Nat) : Int), .int .u8 (b : Int)] w fun e w' => e = .returned (.int .u16 (f (nx P16 r (g b)) : Nat)) ∧ w = w') (A : Option Addr) (c : Nat) (ps : List Prt) (h : Pts w A ps) :
    Calls Tryz.prog 66 #[.slice A ps.length c] w fun e w' => e = .returned (.int .u16 (f (sm P16 65535 ((flat ps).map g)) : Nat)) ∧ w = w' := by
  have hn := h.len
  have hby : ∀ l : List Nat, Byt (l.map g) := fun l b hb => by obtain ⟨x, _, rfl⟩ := List.mem_map.1 hb; exact hg x
  have HY := Lib.hid hby
  have H := Lib.hid h
  clear h
  have HN := Lib.hid hN
  clear hN hg hby
  go_enter Tryz.func66, Tryz.ntmps66
  go_wp2
  go_loopw [3, 10] (fun s i wr => ∃ m : Nat, m ≤ ps.length ∧ i = .int .i64 (m : Int) ∧ s = .int .u16 ((f (sm P16 65535 ((flat (ps.take m)).map g)) : Nat) : Int) ∧ w = wr) (fun _ i _ => ps.length - (intOf i).toNat)
  case atStart =>
    refine ⟨0, Nat.zero_le _, rfl, ?_, rfl⟩
    rw [List.take_zero]
    show Value.int .u16 65535 = .int .u16 ((f 65535 : Nat) : Int)
    rw [hf]
    rfl
  case round =>
    obtain ⟨m, hm, rfl, rfl, rfl⟩ := hrel
    by_cases hlt : m < ps.length
    · obtain ⟨b, o, rfl, hb, hcell⟩ := H.out.at' m hlt
      have hbt := H.out.bts m hlt
      have hbl := hbt.len
      have HB := Lib.hid hbt
      have hr0 : sm P16 65535 ((flat (ps.take m)).map g) < 65536 := sm16_lt _ _ (by omega) (HY.out _)
      have HR := Lib.hid (show sm P16 65535 ((flat (ps.take (m + 1))).map g) = sm P16 (sm P16 65535 ((flat (ps.take m)).map g)) ((ps[m].l).map g) by rw [flat_take hlt, List.map_append, sm_append])
      generalize ps[m] = q at *
      generalize sm P16 65535 ((flat (ps.take m)).map g) = r0 at *
      obtain ⟨qa, qc, ql⟩ := q
      simp only at hcell hbl HB HR
      clear hbt
      go_wp2
      go_loopw [3, 16] (fun s i wr => ∃ j : Nat, j ≤ ql.length ∧ i = .int .i64 (j : Int) ∧ s = .int .u16 ((f (sm P16 r0 ((ql.map g).take j)) : Nat) : Int) ∧ w = wr) (fun _ i _ => ql.length - (intOf i).toNat)
      case atStart => exact ⟨0, Nat.zero_le _, rfl, by rw [List.take_zero]; rfl, rfl⟩
      case round =>
        obtain ⟨j, hj, rfl, rfl, rfl⟩ := hrel
        by_cases hjl : j < ql.length
        · obtain ⟨b', o', rfl, hb', hc'⟩ := HB.out.at' j hjl
          have hbb : ql[j] < 256 := HB.out.byt _ (List.getElem_mem hjl)
          have hrj : sm P16 r0 ((ql.map g).take j) < 65536 := sm16_lt _ _ hr0 ((HY.out _).take j)
          have hnx := HN.out _ _ hrj hbb
          have e : sm P16 r0 ((ql.map g).take (j + 1)) = nx P16 (sm P16 r0 ((ql.map g).take j)) (g ql[j]) := by rw [sm_take (by rw [List.length_map]; exact hjl), List.getElem_map]
          rw [← e] at hnx
          have HX := Lib.hid hnx
          clear hnx e
          go_wp2_with fail
          refine HX.out.mono ?_
          rintro e w' ⟨rfl, rfl⟩
          go_wp2
          exact ⟨⟨j + 1, by omega, by go_num, rfl, trivial⟩, by simp [intOf]; omega⟩
        · obtain rfl : j = ql.length := by omega
          rw [List.take_of_length_le (by rw [List.length_map]; exact Nat.le_refl _), ← HR.out]
          go_wp2
          exact ⟨⟨m + 1, by omega, by go_num, rfl, trivial⟩, by simp [intOf]; omega⟩
    · obtain rfl : m = ps.length := by omega
      rw [List.take_length]
      go_wp2
      go_ret
      exact ⟨rfl, rfl⟩

theorem sum16_any (A : Option Addr) (c : Nat) (ps : List Prt) (h : Pts w A ps) :
    Calls Tryz.prog 66 #[.slice A ps.length c] w fun e w' => e = .returned (.int .u16 (S16 (flat ps) : Nat)) ∧ w = w' :=
  sum16_gen (rev 16) (rev 8) (by decide) (rev_lt 8) (fun r b hr hb => next16_any w r b hr hb) A c ps h
end
end Crc
end Go.Proofs.YtleehhpodgbomaaGreatDoor
/- The chapter's example; and what new parts hold. -/
namespace Go.Proofs.YtleehhpodgbomaaGreatDoor
open Go.RowKit Go.MapKept
namespace Crc

theorem conv_new (w : World) (C : Array Value) (n c : Nat) : (convert 132 132 (.slice (some ⟨w.heap.size, 0, none⟩) n c)).run Tryz.prog (w.alloc (.cells C 5)) = .ok (.slice (some ⟨w.heap.size, 0, none⟩) n c) (w.alloc (.cells C 5 (C.size, C.size + 1))) := by
  have hsh : (w.alloc (.cells C 5)).shape? w.heap.size = some (5, C.size) := by
    have : (w.alloc (.cells C 5)).heap[w.heap.size]? = some (.cells C 5) := by
      show (w.heap.push (.cells C 5))[w.heap.size]? = _
      simp
    unfold World.shape?
    rw [this]
  have hfr : (w.alloc (.cells C 5)).freeze ⟨w.heap.size, C.size, none⟩ 1 = w.alloc (.cells C 5 (C.size, C.size + 1)) := by
    have hm : ∀ (a : Array Obj) (x : Obj) (f : Obj → Obj), (a.push x).modify a.size f = a.push (f x) := by
      intro a x f
      apply Array.ext
      · simp
      · intro i h1 h2
        simp only [Array.getElem_modify, Array.getElem_push]
        by_cases h : a.size = i
        · subst h
          simp
        · have hi : i < a.size := by simp at h1; omega
          simp [h, hi]
    unfold World.freeze
    rw [if_neg (by decide)]
    show ({ w.alloc (.cells C 5) with heap := (w.heap.push (.cells C 5)).modify w.heap.size _ } : World) = _
    rw [hm]
    rfl
  simp [convert, run_underlying Tryz.underlying132, run_underlying Tryz.underlying5, markStringish, hsh, hfr]

theorem Bts.keep {w w' : World} {A : Option Addr} {l : List Nat} (h : Bts w A l) (hb : Below w.heap.size w w') : Bts w' A l :=
  ⟨h.byt, h.len, fun j hj => by
    obtain ⟨b, o, e, hlt, hc⟩ := h.at' j hj
    exact ⟨b, o, e, Nat.lt_of_lt_of_le hlt hb.size, (hb.cell (p := ⟨b, o + j, none⟩) hlt).trans hc⟩⟩

theorem Pts.keep {w w' : World} {A : Option Addr} {ps : List Prt} (h : Pts w A ps) (hb : Below w.heap.size w w') : Pts w' A ps :=
  ⟨h.len, fun j hj => by
    obtain ⟨b, o, e, hlt, hc⟩ := h.at' j hj
    exact ⟨b, o, e, Nat.lt_of_lt_of_le hlt hb.size, (hb.cell (p := ⟨b, o + j, none⟩) hlt).trans hc⟩, fun i hi => (h.bts i hi).keep hb⟩

theorem Bts.alloc {w : World} {A : Option Addr} {l : List Nat} (h : Bts w A l) (o : Obj) : Bts (w.alloc o) A l := h.keep ((Below.refl _ _).alloc (Nat.le_refl _) o)
theorem Pts.alloc {w : World} {A : Option Addr} {ps : List Prt} (h : Pts w A ps) (o : Obj) : Pts (w.alloc o) A ps := h.keep ((Below.refl _ _).alloc (Nat.le_refl _) o)

/-- the cell of a part -/
def Prt.val (q : Prt) : Value := .slice q.a q.l.length q.c

theorem alloc_cell (w : World) (C : Array Value) (t : TypeId) (j : Nat) : (w.alloc (.cells C t)).cell? ⟨w.heap.size, j, none⟩ = C[j]? := World.cell?_alloc_mark w C t _ j

/-- new parts -/
theorem pts_new {w : World} (ps : List Prt) (t : TypeId) (hn : ps.length ≤ 9223372036854775807) (h : ∀ i (h : i < ps.length), Bts w ps[i].a ps[i].l) : Pts (w.alloc (.cells (ps.map Prt.val).toArray t)) (some ⟨w.heap.size, 0, none⟩) ps :=
  ⟨hn, fun i hi => ⟨w.heap.size, 0, rfl, by simp, by
    rw [alloc_cell, Nat.zero_add, List.getElem?_toArray, List.getElem?_map, List.getElem?_eq_getElem hi]
    rfl⟩, fun i hi => (h i hi).alloc _⟩

theorem pts_one {w : World} {A : Option Addr} {l : List Nat} (c : Nat) (h : Bts w A l) : Pts (w.alloc (.cells #[.slice A l.length c] 132)) (some ⟨w.heap.size, 0, none⟩) [⟨A, c, l⟩] :=
  pts_new [⟨A, c, l⟩] _ (by simp) (fun i hi => by
    obtain rfl : i = 0 := by simpa using hi
    exact h)

def L9 : List Nat := [49, 50, 51, 52, 53, 54, 55, 56, 57]

theorem bts_nine (w : World) : Bts (w.alloc (.cells #[.int .u8 49, .int .u8 50, .int .u8 51, .int .u8 52, .int .u8 53, .int .u8 54, .int .u8 55, .int .u8 56, .int .u8 57] 5 (9, 10))) (some ⟨w.heap.size, 0, none⟩) L9 :=
  ⟨by unfold Byt; decide, by decide, fun j hj => ⟨w.heap.size, 0, rfl, by simp, by
    rw [World.cell?_alloc_mark, Nat.zero_add]
    have : j < 9 := hj
    match j, this with
    | 0, _ => rfl
    | 1, _ => rfl
    | 2, _ => rfl
    | 3, _ => rfl
    | 4, _ => rfl
    | 5, _ => rfl
    | 6, _ => rfl
    | 7, _ => rfl
    | 8, _ => rfl⟩⟩

theorem flat_one (a : Option Addr) (c : Nat) (l : List Nat) : flat [⟨a, c, l⟩] = l := by simp [flat]

theorem s32_nine : S32 L9 = 3421780262 := by decide +kernel
theorem s16_nine : S16 L9 = 10673 := by decide +kernel

/-- the sums of one part -/
theorem sum32_one {w : World} {A : Option Addr} {l : List Nat} (c cc : Nat) (h : Bts w A l) :
    Calls Tryz.prog 118 #[.slice (some ⟨w.heap.size, 0, none⟩) 1 cc] (w.alloc (.cells #[.slice A l.length c] 132)) fun e w' => e = .returned (.int .u32 (S32 l : Nat)) ∧ w.alloc (.cells #[.slice A l.length c] 132) = w' := by
  have := sum32_any _ cc _ (pts_one c h)
  rw [flat_one] at this
  exact this
theorem sum16_one {w : World} {A : Option Addr} {l : List Nat} (c cc : Nat) (h : Bts w A l) :
    Calls Tryz.prog 66 #[.slice (some ⟨w.heap.size, 0, none⟩) 1 cc] (w.alloc (.cells #[.slice A l.length c] 132)) fun e w' => e = .returned (.int .u16 (S16 l : Nat)) ∧ w.alloc (.cells #[.slice A l.length c] 132) = w' := by
  have := sum16_any _ cc _ (pts_one c h)
  rw [flat_one] at this
  exact this

set_option maxHeartbeats 1600000 in
set_option maxRecDepth 100000 in
theorem lives_any (w : World) : Calls Tryz.prog 84 #[] w fun r w' => r = .returned (.bool true) ∧ Below w.heap.size w w' := by
  have h1 := bts_nine w
  have hcv := conv_new w #[.int .u8 49, .int .u8 50, .int .u8 51, .int .u8 52, .int .u8 53, .int .u8 54, .int .u8 55, .int .u8 56, .int .u8 57] 9 9
  have c1 := sum32_one 9 1 h1
  have c2 := sum16_one 9 1 (h1.alloc (.cells #[.slice (some ⟨w.heap.size, 0, none⟩) 9 9] 132))
  rw [s32_nine, World.size_alloc] at c1
  rw [s16_nine, World.size_alloc, World.size_alloc] at c2
  have hb : Below w.heap.size w (((w.alloc (.cells #[.int .u8 49, .int .u8 50, .int .u8 51, .int .u8 52, .int .u8 53, .int .u8 54, .int .u8 55, .int .u8 56, .int .u8 57] 5 (9, 10))).alloc (.cells #[.slice (some ⟨w.heap.size, 0, none⟩) 9 9] 132)).alloc (.cells #[.slice (some ⟨w.heap.size, 0, none⟩) 9 9] 132)) :=
    (((Below.refl _ _).alloc (Nat.le_refl _) _).alloc (by simp) _).alloc (by simp; omega) _
  have C1 := Lib.hid c1
  have C2 := Lib.hid c2
  have HB := Lib.hid hb
  clear h1 c1 c2 hb
  go_enter Tryz.func84, Tryz.ntmps84
  go_wp2_with fail
  refine C1.out.mono ?_
  rintro e w' ⟨rfl, rfl⟩
  go_wp2_with fail
  refine C2.out.mono ?_
  rintro e w' ⟨rfl, rfl⟩
  go_wp2
  go_ret
  exact ⟨rfl, HB.out⟩
end Crc
end Go.Proofs.YtleehhpodgbomaaGreatDoor
/- The document's sums of a text. -/
namespace Go.Proofs.YtleehhpodgbomaaGreatDoor
open Go.RowKit Go.MapKept
namespace Crc

/-- a text's bytes -/
def tx (s : ByteArray) : List Nat := s.data.toList.map UInt8.toNat

theorem tx_len (s : ByteArray) : (tx s).length = s.size := by
  unfold tx
  rw [List.length_map, Array.length_toList]
  rfl
theorem tx_byt (s : ByteArray) : Byt (tx s) := by
  intro b hb
  obtain ⟨x, _, rfl⟩ := List.mem_map.1 hb
  exact x.toNat_lt
theorem tx_get {s : ByteArray} {i : Nat} (h : i < s.size) : (tx s)[i]?.getD 0 = (s[i]'h).toNat := by
  have h' : i < s.data.toList.length := by rw [Array.length_toList]; exact h
  simp only [tx, List.getElem?_map, List.getElem?_eq_getElem h', Option.map_some, Option.getD_some]
  rfl

theorem bit_div (x i : Nat) : x / 2 ^ i % 2 = (x.testBit i).toNat := by
  rw [Nat.testBit_eq_decide_div_mod_eq]
  rcases Nat.mod_two_eq_zero_or_one (x / 2 ^ i) with h | h <;> simp [h]

theorem A_bit (p x e : Nat) (he : e < 2) : A p (x ^^^ e) = if e = x % 2 then x / 2 else x / 2 ^^^ p := by
  unfold A
  rw [half_xor, odd_xor, Nat.div_eq_of_lt he, Nat.xor_zero]
  have := Nat.mod_lt x (show 0 < 2 by omega)
  by_cases h : e = x % 2
  · have : ¬ (x % 2 + e % 2) % 2 = 1 := by omega
    rw [if_pos h, if_neg this, Nat.xor_zero]
  · have : (x % 2 + e % 2) % 2 = 1 := by omega
    rw [if_neg h, if_pos this]

/-- the bit that is taken next -/
def bit (l : List Nat) (m : Nat) : Nat := le l / 2 ^ m % 2
theorem bit_lt (l : List Nat) (m : Nat) : bit l m < 2 := Nat.mod_lt _ (by omega)
theorem ser_step (p r : Nat) (l : List Nat) (m : Nat) : ser p r (le l) (m + 1) = if bit l m = ser p r (le l) m % 2 then ser p r (le l) m / 2 else ser p r (le l) m / 2 ^^^ p := A_bit p _ _ (bit_lt l m)

theorem ser32_lt (l : List Nat) (m : Nat) : ser P32 4294967295 (le l) m < 4294967296 := by
  induction m with
  | zero => show 4294967295 < _; omega
  | succ m ih =>
    rw [ser_step]
    split
    · omega
    · exact Nat.xor_lt_two_pow (n := 32) (by omega) (by decide)
theorem ser16_lt (l : List Nat) (m : Nat) : ser P16 65535 (le l) m < 65536 := by
  induction m with
  | zero => show 65535 < _; omega
  | succ m ih =>
    rw [ser_step]
    split
    · omega
    · exact Nat.xor_lt_two_pow (n := 16) (by omega) (by decide)

theorem bit32 {s : ByteArray} {m : Nat} (h : m / 8 < s.size) : bits .and .u32 (((s[m / 8]'h).toNat : Int) / 2 ^ (m % 8) % 4294967296) 1 = ((bit (tx s) m : Nat) : Int) := by
  have h1 : (((s[m / 8]'h).toNat : Int) / 2 ^ (m % 8) % 4294967296) = (((s[m / 8]'h).toNat / 2 ^ (m % 8) % 4294967296 : Nat) : Int) := by simp
  rw [h1]
  have h2 := u32_and_nat ((s[m / 8]'h).toNat / 2 ^ (m % 8) % 4294967296) 1 (by omega) (by omega)
  rw [nat_mask1] at h2
  refine h2.trans ?_
  unfold bit
  rw [bit_div, bit_le _ _ (tx_byt s) (by rw [tx_len]; omega), tx_get h, ← bit_div]
  omega

theorem bit16 {s : ByteArray} {m : Nat} (h : m / 8 < s.size) : bits .and .u16 (((s[m / 8]'h).toNat : Int) / 2 ^ (7 - m % 8) % 65536) 1 = ((bit ((tx s).map (rev 8)) m : Nat) : Int) := by
  have h1 : (((s[m / 8]'h).toNat : Int) / 2 ^ (7 - m % 8) % 65536) = (((s[m / 8]'h).toNat / 2 ^ (7 - m % 8) % 65536 : Nat) : Int) := by simp
  rw [h1]
  have h2 := u16_and_nat ((s[m / 8]'h).toNat / 2 ^ (7 - m % 8) % 65536) 1 (by omega) (by omega)
  rw [nat_mask1] at h2
  refine h2.trans ?_
  unfold bit
  have hl : m / 8 < (tx s).length := by rw [tx_len]; exact h
  have e : (((tx s).map (rev 8))[m / 8]?.getD 0) = rev 8 (s[m / 8]'h).toNat := by
    rw [← tx_get h, List.getElem?_map, List.getElem?_eq_getElem hl]
    rfl
  rw [bit_div, bit_le _ _ (Byt.rev8 _) (by rw [List.length_map, tx_len]; omega), e, bit_rev]
  have h8 : m % 8 < 8 := by omega
  simp only [h8, decide_true, Bool.true_and]
  rw [show 8 - 1 - m % 8 = 7 - m % 8 by omega, ← bit_div]
  omega

set_option maxHeartbeats 1600000 in
set_option maxRecDepth 100000 in
theorem ref32_any (w : World) (s : ByteArray) (hs : s.size < 1000000000000) :
    Calls Tryz.prog 89 #[.string s] w fun e w' => e = .returned (.int .u32 (S32 (tx s) : Nat)) ∧ w = w' := by
  have HE := Lib.hid (ser_sm P32 4294967295 (tx s) (tx_byt s))
  go_enter Tryz.func89, Tryz.ntmps89
  go_wp2
  go_loopw [3, 4] (fun t i wr => ∃ m : Nat, m ≤ 8 * s.size ∧ i = .int .i64 (m : Int) ∧ t = .int .u32 ((ser P32 4294967295 (le (tx s)) m : Nat) : Int) ∧ w = wr) (fun _ i _ => 8 * s.size - (intOf i).toNat)
  case atStart => exact ⟨0, Nat.zero_le _, rfl, rfl, rfl⟩
  case round =>
    obtain ⟨m, hm, rfl, rfl, rfl⟩ := hrel
    have hq := ser32_lt (tx s) m
    by_cases hlt : m < 8 * s.size
    · have h8 : m / 8 < s.size := by omega
      have hb := bit32 h8
      have hbl := bit_lt (tx s) m
      have HS := Lib.hid (ser_step P32 4294967295 (tx s) m)
      generalize bit (tx s) m = e at *
      generalize ser P32 4294967295 (le (tx s)) m = r at *
      have hr : bits .and .u32 (r : Int) 1 = ((r % 2 : Nat) : Int) := by
        have := u32_and_nat r 1 hq (by omega)
        rw [nat_mask1] at this
        exact this
      have hx : bits .xor .u32 ((r : Int) / 2) 3988292384 = ((r / 2 ^^^ P32 : Nat) : Int) := u32_xor_nat (r / 2) 3988292384 (by omega) (by omega)
      go_wp2
      · rename_i hc
        have hne : ¬ e = r % 2 := by rintro rfl; simp at hc
        have hs' := HS.out
        rw [if_neg hne] at hs'
        exact ⟨⟨m + 1, by omega, by go_num, by rw [hs'], trivial⟩, by simp [intOf]; omega⟩
      · rename_i hc
        have hne : e = r % 2 := by simp at hc; omega
        have hs' := HS.out
        rw [if_pos hne] at hs'
        exact ⟨⟨m + 1, by omega, by go_num, by rw [hs']; rfl, trivial⟩, by simp [intOf]; omega⟩
    · obtain rfl : m = 8 * s.size := by omega
      rw [tx_len] at HE
      have hE := HE.out
      have HS := Lib.hid (show ((S32 (tx s) : Nat) : Int) = 4294967295 - ((sm P32 4294967295 (tx s) : Nat) : Int) by unfold S32; rw [hE] at hq; omega)
      rw [hE]
      rw [hE] at hq
      go_wp2
      go_ret
      refine ⟨?_, rfl⟩
      rw [HS.out]
      rfl

theorem rev_p16 : rev 16 P16 = 4129 := by decide

set_option maxHeartbeats 1600000 in
set_option maxRecDepth 100000 in
theorem ref16_gen (f : Nat → Nat) (hf0 : f 65535 = 65535) (hfl : ∀ q, f q < 65536) (hfh : ∀ q, q < 65536 → f (q / 2) = f q * 2 % 65536) (hft : ∀ q, f q / 32768 = q % 2) (hfx : ∀ q, f (q ^^^ P16) = f q ^^^ 4129)
    (w : World) (s : ByteArray) (L : List Nat) (hL : L.length = s.size) (hLb : Byt L) (hs : s.size < 1000000000000) (hbit : ∀ m (h : m / 8 < s.size), bits .and .u16 (((s[m / 8]'h).toNat : Int) / 2 ^ (7 - m % 8) % 65536) 1 = ((bit L m : Nat) : Int)) :
    Calls Tryz.prog 133 #[.string s] w fun e w' => e = .returned (.int .u16 (f (sm P16 65535 L) : Nat)) ∧ w = w' := by
  have HE := Lib.hid (ser_sm P16 65535 L hLb)
  rw [hL] at HE
  have H1 := Lib.hid hfl
  have H2 := Lib.hid hfh
  have H3 := Lib.hid hft
  have H4 := Lib.hid hfx
  have H5 := Lib.hid hbit
  clear hfl hfh hft hfx hbit hL hLb
  go_enter Tryz.func133, Tryz.ntmps133
  go_wp2
  go_loopw [3, 4] (fun t i wr => ∃ m : Nat, m ≤ 8 * s.size ∧ i = .int .i64 (m : Int) ∧ t = .int .u16 ((f (ser P16 65535 (le L) m) : Nat) : Int) ∧ w = wr) (fun _ i _ => 8 * s.size - (intOf i).toNat)
  case atStart =>
    refine ⟨0, Nat.zero_le _, rfl, ?_, rfl⟩
    show Value.int .u16 65535 = .int .u16 ((f 65535 : Nat) : Int)
    rw [hf0]
    rfl
  case round =>
    obtain ⟨m, hm, rfl, rfl, rfl⟩ := hrel
    have hq := ser16_lt L m
    by_cases hlt : m < 8 * s.size
    · have h8 : m / 8 < s.size := by omega
      have hb := H5.out m h8
      rw [← IntKind.wrap_u16] at hb
      have hbl := bit_lt L m
      have HS := Lib.hid (ser_step P16 65535 L m)
      generalize bit L m = e at *
      generalize ser P16 65535 (le L) m = q at *
      have ht := H3.out q
      have HH := Lib.hid (H2.out q hq)
      have hx' := H4.out (q / 2)
      rw [HH.out] at hx'
      have hrl := H1.out q
      have HT := Lib.hid hx'
      generalize f q = r at *
      have hr : (r : Int) / 32768 = ((q % 2 : Nat) : Int) := by rw [← ht]; rfl
      have hd : IntKind.wrap .u16 ((r : Int) * 2) = ((r * 2 % 65536 : Nat) : Int) := by rw [IntKind.wrap_u16]; rfl
      have hx : bits .xor .u16 ((r * 2 % 65536 : Nat) : Int) 4129 = ((r * 2 % 65536 ^^^ 4129 : Nat) : Int) := u16_xor_nat (r * 2 % 65536) 4129 (by omega) (by omega)
      clear ht hx'
      go_wp2
      · rename_i hc
        have hne : ¬ e = q % 2 := by rintro rfl; simp at hc
        have hs' := HS.out
        rw [if_neg hne] at hs'
        exact ⟨⟨m + 1, by omega, by go_num, by rw [hs', HT.out, ← hx]; rfl, trivial⟩, by simp [intOf]; omega⟩
      · rename_i hc
        have hne : e = q % 2 := by simp at hc; omega
        have hs' := HS.out
        rw [if_pos hne] at hs'
        exact ⟨⟨m + 1, by omega, by go_num, by rw [hs', HH.out]; rfl, trivial⟩, by simp [intOf]; omega⟩
    · obtain rfl : m = 8 * s.size := by omega
      rw [HE.out]
      go_wp2
      go_ret
      exact ⟨rfl, rfl⟩

theorem ref16_any (w : World) (s : ByteArray) (hs : s.size < 1000000000000) :
    Calls Tryz.prog 133 #[.string s] w fun e w' => e = .returned (.int .u16 (S16 (tx s) : Nat)) ∧ w = w' :=
  ref16_gen (rev 16) (by decide) (rev_lt 16) (fun q hq => (rev_half hq).symm) rev_top (fun q => by rw [rev_xor, rev_p16]) w s ((tx s).map (rev 8)) (by rw [List.length_map, tx_len]) (Byt.rev8 _) hs (fun _ h => bit16 h)
end Crc
end Go.Proofs.YtleehhpodgbomaaGreatDoor
/- Words' bytes, and the program's sums of them. -/
namespace Go.Proofs.YtleehhpodgbomaaGreatDoor
open Go.RowKit Go.MapKept
namespace Crc

/-- a word's bytes, the lowest first -/
def wb (x : Nat) : List Nat := (List.range 8).map fun k => x / 256 ^ k % 256

theorem wb_len (x : Nat) : (wb x).length = 8 := by simp [wb]
theorem wb_get {x k : Nat} (h : k < (wb x).length) : (wb x)[k] = x / 256 ^ k % 256 := by simp [wb]
theorem wb_byt (x : Nat) : Byt (wb x) := by
  intro b hb
  obtain ⟨k, _, rfl⟩ := List.mem_map.1 hb
  exact Nat.mod_lt _ (by omega)

/-- these words lie at A -/
structure Wds (w : World) (A : Option Addr) (l : List Nat) : Prop where
  u64 : ∀ x ∈ l, x < 18446744073709551616
  len : l.length ≤ 9223372036854775807
  at' : ∀ j (h : j < l.length), ∃ b o, A = some ⟨b, o, none⟩ ∧ b < w.heap.size ∧ w.cell? ⟨b, o + j, none⟩ = some (.int .u64 (l[j] : Int))

theorem Wds.keep {w w' : World} {A : Option Addr} {l : List Nat} (h : Wds w A l) (hb : Below w.heap.size w w') : Wds w' A l :=
  ⟨h.u64, h.len, fun j hj => by
    obtain ⟨b, o, e, hlt, hc⟩ := h.at' j hj
    exact ⟨b, o, e, Nat.lt_of_lt_of_le hlt hb.size, (hb.cell (p := ⟨b, o + j, none⟩) hlt).trans hc⟩⟩

def wflat (l : List Nat) : List Nat := l.flatMap wb
theorem wflat_take {l : List Nat} {m : Nat} (h : m < l.length) : wflat (l.take (m + 1)) = wflat (l.take m) ++ wb l[m] := by
  unfold wflat
  rw [List.take_succ_eq_append_getElem h, List.flatMap_append]
  simp
theorem wflat_byt (l : List Nat) : Byt (wflat l) := by
  intro b hb
  obtain ⟨q, _, hb⟩ := List.mem_flatMap.1 hb
  exact wb_byt q b hb

theorem wordByte_any (w : World) (x k : Nat) (_hx : x < 18446744073709551616) (hk : k < 8) :
    Calls Tryz.prog 140 #[.int .u64 (x : Int), .int .i64 (k : Int)] w fun e w' => e = .returned (.int .u8 (x / 256 ^ k % 256 : Nat)) ∧ w = w' := by
  have e : x / 256 ^ k % 256 = x / 2 ^ (k * 8) % 256 := by
    rw [Nat.mul_comm k 8, Nat.pow_mul]
  have HE := Lib.hid e
  clear e
  go_enter Tryz.func140, Tryz.ntmps140
  go_wp2
  go_ret
  refine ⟨?_, rfl⟩
  rw [HE.out]
  simp

section
variable {w : World}
set_option maxHeartbeats 1600000 in
set_option maxRecDepth 100000 in
theorem words32_any (A : Option Addr) (c : Nat) (l : List Nat) (h : Wds w A l) :
    Calls Tryz.prog 114 #[.slice A l.length c] w fun e w' => e = .returned (.int .u32 (S32 (wflat l) : Nat)) ∧ w = w' := by
  have hn := h.len
  have H := Lib.hid h
  clear h
  have HN := Lib.hid (fun r b hr hb => next32_any w r b hr hb)
  have HW := Lib.hid (fun x k hx hk => wordByte_any w x k hx hk)
  go_enter Tryz.func114, Tryz.ntmps114
  go_wp2
  go_loopw [3, 9] (fun s i wr => ∃ m : Nat, m ≤ l.length ∧ i = .int .i64 (m : Int) ∧ s = .int .u32 ((sm P32 4294967295 (wflat (l.take m)) : Nat) : Int) ∧ w = wr) (fun _ i _ => l.length - (intOf i).toNat)
  case atStart => exact ⟨0, Nat.zero_le _, rfl, rfl, rfl⟩
  case round =>
    obtain ⟨m, hm, rfl, rfl, rfl⟩ := hrel
    by_cases hlt : m < l.length
    · obtain ⟨b, o, rfl, hb, hcell⟩ := H.out.at' m hlt
      have hx := H.out.u64 _ (List.getElem_mem hlt)
      have hr0 : sm P32 4294967295 (wflat (l.take m)) < 4294967296 := sm32_lt _ _ (by omega) (wflat_byt _)
      have HR := Lib.hid (show sm P32 4294967295 (wflat (l.take (m + 1))) = sm P32 (sm P32 4294967295 (wflat (l.take m))) (wb l[m]) by rw [wflat_take hlt, sm_append])
      generalize l[m] = x at *
      generalize sm P32 4294967295 (wflat (l.take m)) = r0 at *
      go_wp2
      go_loopw [3, 13] (fun s i wr => ∃ j : Nat, j ≤ 8 ∧ i = .int .i64 (j : Int) ∧ s = .int .u32 ((sm P32 r0 ((wb x).take j) : Nat) : Int) ∧ w = wr) (fun _ i _ => 8 - (intOf i).toNat)
      case atStart => exact ⟨0, Nat.zero_le _, rfl, rfl, rfl⟩
      case round =>
        obtain ⟨j, hj, rfl, rfl, rfl⟩ := hrel
        by_cases hjl : j < 8
        · have hjw : j < (wb x).length := by rw [wb_len]; exact hjl
          have hrj : sm P32 r0 ((wb x).take j) < 4294967296 := sm32_lt _ _ hr0 ((wb_byt x).take j)
          have hby : x / 256 ^ j % 256 < 256 := Nat.mod_lt _ (by omega)
          have hnx := HN.out _ _ hrj hby
          have e : sm P32 r0 ((wb x).take (j + 1)) = nx P32 (sm P32 r0 ((wb x).take j)) (x / 256 ^ j % 256) := by rw [sm_take hjw, wb_get]
          rw [← e] at hnx
          have HX := Lib.hid hnx
          have HY := Lib.hid (HW.out x j hx hjl)
          clear hnx e hby
          go_wp2_with fail
          refine HY.out.mono ?_
          generalize x / 256 ^ j % 256 = y at *
          rintro e w' ⟨rfl, rfl⟩
          go_wp2_with fail
          refine HX.out.mono ?_
          rintro e w' ⟨rfl, rfl⟩
          go_wp2
          exact ⟨⟨j + 1, by omega, by go_num, rfl, trivial⟩, by simp [intOf]; omega⟩
        · obtain rfl : j = 8 := by omega
          rw [List.take_of_length_le (by rw [wb_len]; exact Nat.le_refl _), ← HR.out]
          go_wp2
          exact ⟨⟨m + 1, by omega, by go_num, rfl, trivial⟩, by simp [intOf]; omega⟩
    · obtain rfl : m = l.length := by omega
      rw [List.take_length]
      have hi := inv32 _ (sm32_lt (wflat l) 4294967295 (by omega) (wflat_byt l))
      go_wp2
      go_ret
      exact ⟨rfl, rfl⟩

end
end Crc
end Go.Proofs.YtleehhpodgbomaaGreatDoor
/- Bytes as a text; the document's bytes of words; CrcWords. -/
namespace Go.Proofs.YtleehhpodgbomaaGreatDoor
open Go.RowKit Go.MapKept
namespace Crc

theorem ofNat_toNat {b : Nat} (h : b < 256) : (UInt8.ofNat b).toNat = b := by
  rw [UInt8.toNat_ofNat']
  omega

/-- the text of bytes -/
def str (l : List Nat) : ByteArray := ⟨(l.map UInt8.ofNat).toArray⟩
theorem str_size (l : List Nat) : (str l).size = l.length := by
  show ((l.map UInt8.ofNat).toArray).size = _
  rw [List.size_toArray, List.length_map]
theorem tx_str {l : List Nat} (h : Byt l) : tx (str l) = l := by
  unfold tx str
  rw [List.map_map]
  refine (List.map_congr_left (fun b hb => ?_)).trans (List.map_id l)
  exact ofNat_toNat (h b hb)

theorem conv_str {W : World} {A : Option Addr} {l : List Nat} (c : Nat) (h : Bts W A l) : (convert 132 9 (.slice A l.length c)).run Tryz.prog W = .ok (.string (str l)) W := by
  cases A with
  | none =>
    have hl : l = [] := by
      cases l with
      | nil => rfl
      | cons b l =>
        obtain ⟨_, _, e, _⟩ := h.at' 0 (by simp)
        cases e
    subst hl
    exact run_convert_bytes_nil W _ _ Tryz.underlying132 Tryz.underlying5 0 c _ Tryz.underlying9
  | some a =>
    have hr := run_convert_bytes_back (P := Tryz.prog) W 132 9 5 a c (l.map UInt8.ofNat) Tryz.underlying132 Tryz.underlying5 Tryz.underlying9 (fun j hj => by
      rw [List.length_map] at hj
      obtain ⟨b, o, e, _, hc⟩ := h.at' j hj
      injection e with e
      subst e
      rw [Go.WideShapes.add_plain, hc, List.getElem_map, ofNat_toNat (h.byt _ (List.getElem_mem hj))])
    rw [List.length_map] at hr
    exact hr

/-- bytes as cells -/
def u8s (l : List Nat) : List Value := l.map fun b : Nat => Value.int .u8 (b : Int)
theorem u8s_one (l : List Nat) : ∀ u ∈ u8s l, u.oneCell' = true := by
  intro u hu
  obtain ⟨x, _, rfl⟩ := List.mem_map.1 hu
  rfl

theorem own_bts {W : World} {B n c : Nat} {G : Option Addr} {bs : List Nat} (h : W.ownsRow B 5 1 (.slice G n c) n (u8s bs)) (hb : Byt bs) (hm : n ≤ 9223372036854775807) : Bts W G bs := by
  have hl : bs.length = n := by
    have := h.1
    simpa [u8s] using this
  refine ⟨hb, by omega, fun j hj => ?_⟩
  rcases h.2 with ⟨e, h0⟩ | ⟨g, cap, cur, e, _, hh, _, _, _, ht⟩
  · omega
  · injection e with e
    subst e
    refine ⟨g, 0, rfl, (Array.getElem?_eq_some_iff.1 hh).1, ?_⟩
    have := congrArg (·[j]?) ht
    simp only [Nat.mul_one, u8s] at this
    rw [List.getElem?_take, if_pos (by omega), List.getElem?_map, List.getElem?_eq_getElem hj] at this
    unfold World.cell?
    rw [hh, Nat.zero_add]
    simp only
    rw [← Array.getElem?_toList]
    simpa using this

theorem row_slice {B n : Nat} {W : World} {e : TypeId} {v : Value} {xs : List Value} (h : W.ownsRow B e 1 v n xs) : ∃ G c, v = .slice G n c := by
  rcases h.2 with ⟨e, h0⟩ | ⟨g, cap, cur, e, _⟩
  · exact ⟨none, 0, by rw [e, h0]⟩
  · exact ⟨_, _, e⟩
theorem row_base_lt {w : World} {B : Nat} {e : TypeId} {n : Nat} {v : Value} {xs : List Value} (h : w.ownsRow B e 1 v n xs) {g : Nat} (hg : v.ownBlock = some g) : B ≤ g := by
  rcases h.2 with ⟨e, _⟩ | ⟨g', cap, cur, e, hb, hh, _⟩
  · rw [e] at hg; simp [Value.ownBlock] at hg
  · rw [e] at hg
    simp only [Value.ownBlock, Option.some.injEq] at hg
    omega

theorem u8_info : (Tryz.prog.info? 5).map (fun i => (i.zero, i.size, i.bytes)) = some (some (.int .u8 0), 1, 1) := by kernel_rfl

/-- bytes of the call's own -/
def Got (w wr : World) (G : Option Addr) (n gc : Nat) (bs : List Nat) : Prop := wr.ownsRow w.heap.size 5 1 (.slice G n gc) n (u8s bs) ∧ Below w.heap.size w wr

theorem wflat_len (l : List Nat) : (wflat l).length = 8 * l.length := by
  unfold wflat
  induction l with
  | nil => rfl
  | cons x l ih => rw [List.flatMap_cons, List.length_append, ih, wb_len, List.length_cons]; omega

theorem div_pow (x j : Nat) : x / 256 ^ (j + 1) = x / 256 ^ j / 256 := by rw [Nat.pow_succ, Nat.div_div_eq_div_mul]

section
variable {w : World}
set_option maxHeartbeats 1600000 in
set_option maxRecDepth 100000 in
theorem bytes_any (A : Option Addr) (c : Nat) (l : List Nat) (h : Wds w A l) (h60 : l.length ≤ 60) :
    Calls Tryz.prog 90 #[.slice A l.length c] w fun e w' => e = .returned (.string (str (wflat l))) ∧ Below w.heap.size w w' := by
  have H := Lib.hid h
  clear h
  go_enter Tryz.func90, Tryz.ntmps90
  go_wp2
  go_loopw [3, 8] (fun v i wr => ∃ (m : Nat) (G : Option Addr) (gc : Nat), m ≤ l.length ∧ i = .int .i64 (m : Int) ∧ v = .slice G (8 * m) gc ∧ Got w wr G (8 * m) gc (wflat (l.take m))) (fun _ i _ => l.length - (intOf i).toNat)
  case atStart => exact ⟨0, none, 0, Nat.zero_le _, rfl, rfl, ⟨by rw [List.take_zero]; rfl, .inl ⟨rfl, rfl⟩⟩, Below.refl _ _⟩
  case round =>
    obtain ⟨m, G, gc, hm, rfl, rfl, hgot⟩ := hrel
    by_cases hlt : m < l.length
    · obtain ⟨b, o, rfl, hb, hcell0⟩ := H.out.at' m hlt
      have hcell := (hgot.2.cell (p := ⟨b, o + m, none⟩) hb).trans hcell0
      have hx := H.out.u64 _ (List.getElem_mem hlt)
      have HR := Lib.hid (wflat_take hlt)
      have HG := Lib.hid hgot
      generalize l[m] = x at *
      clear hgot hcell0
      go_wp2
      go_loopw [3, 5, 12] (fun v y i w2 => ∃ (j : Nat) (G : Option Addr) (gc : Nat), j ≤ 8 ∧ i = .int .i64 (j : Int) ∧ y = .int .u64 ((x / 256 ^ j : Nat) : Int) ∧ v = .slice G (8 * m + j) gc ∧ Got w w2 G (8 * m + j) gc (wflat (l.take m) ++ (wb x).take j)) (fun _ _ i _ => 8 - (intOf i).toNat)
      case atStart => exact ⟨0, G, gc, Nat.zero_le _, rfl, by simp, rfl, by simpa using HG.out⟩
      case round =>
        obtain ⟨j, G2, gc2, hj, rfl, rfl, rfl, hgot2⟩ := hrel
        by_cases hjl : j < 8
        · have hjw : j < (wb x).length := by rw [wb_len]; exact hjl
          have e1 : (wb x).take (j + 1) = (wb x).take j ++ [x / 256 ^ j % 256] := by rw [List.take_succ_eq_append_getElem hjw, wb_get]
          have e2 := div_pow x j
          have hyl : x / 256 ^ j < 18446744073709551616 := Nat.lt_of_le_of_lt (Nat.div_le_self _ _) hx
          have HE1 := Lib.hid e1
          have HE2 := Lib.hid e2
          generalize x / 256 ^ j = y at *
          obtain ⟨i0, hi0, hz0, hz1, hz2⟩ := info_parts u8_info
          have HOWN := Lib.hid (hgot2.1.alloc (.cells #[.int .u8 ((y : Int) % 256)] 5))
          have HB2 := Lib.hid hgot2.2
          have HRW := Lib.hid hgot2.1
          clear hgot2 e1 e2 hx
          go_wp2_with (at_builtin; refine wpList_append_own_at _ rfl (.tmp 14) (.tmp 18) 132 rfl w.heap.size 5 i0 (.int .u8 0) 1 1 Tryz.underlying132 hi0 hz0 hz1 hz2 rfl (by decide) (.slice G2 (8 * m + j) gc2) (8 * m + j) (u8s (wflat (l.take m) ++ (wb x).take j)) rfl HOWN.out ⟨wr.heap.size, 0, none⟩ 1 1 [.int .u8 ((y : Int) % 256)] rfl rfl (cell_one_new _ _ _) (by simp [Value.oneCell']) (by unfold maxLen; omega) (by omega) (by have := HB2.out.size; simp; omega) ?_
                       intro v' w3 hown3 hgr3 _ _
                       obtain ⟨G', gc', rfl⟩ := row_slice hown3
                       have HO3 := Lib.hid hown3
                       have HG3 := Lib.hid hgr3
                       clear hown3 hgr3)
          refine ⟨⟨j + 1, G', gc', by omega, by go_num, ?_, rfl, ?_, ?_⟩, by simp [intOf]; omega⟩
          · rw [HE2.out]
            rfl
          · have e : u8s (wflat (l.take m) ++ (wb x).take (j + 1)) = u8s (wflat (l.take m) ++ (wb x).take j) ++ [.int .u8 ((y : Int) % 256)] := by
              rw [HE1.out, ← List.append_assoc]
              simp only [u8s, List.map_append]
              rfl
            rw [e]
            exact HO3.out
          · exact (HB2.out.alloc HB2.out.size _).grown HG3.out (by have := HB2.out.size; simp; omega) (fun k hk => row_base_lt HRW.out hk)
        · obtain rfl : j = 8 := by omega
          rw [List.take_of_length_le (l := wb x) (by rw [wb_len]; exact Nat.le_refl _), ← HR.out] at hgot2
          have HG2 := Lib.hid hgot2
          clear hgot2
          go_wp2
          exact ⟨⟨m + 1, G2, gc2, by omega, by go_num, rfl, HG2.out⟩, by simp [intOf]; omega⟩
    · obtain rfl : m = l.length := by omega
      rw [List.take_length] at hgot
      have hcv := conv_str gc (own_bts hgot.1 (wflat_byt l) (by omega))
      rw [wflat_len] at hcv
      have HB := Lib.hid hgot.2
      clear hgot
      go_wp2
      go_ret
      exact ⟨rfl, HB.out⟩

end
end Crc
end Go.Proofs.YtleehhpodgbomaaGreatDoor
/- Bytes some bits of which are turned, and that the sums tell it. -/
namespace Go.Proofs.YtleehhpodgbomaaGreatDoor
open Go.RowKit Go.MapKept
namespace Crc

/-- of l the bits from f on are turned that m says, m of i bits -/
structure Trn (l : List Nat) (f i m : Nat) (c : List Nat) : Prop where
  byt : Byt c
  len : c.length = l.length
  lt : m < 2 ^ i
  eq : le c = le l ^^^ m * 2 ^ f
  zero : m = 0 → c = l

theorem Trn.refl {l : List Nat} (h : Byt l) (f : Nat) : Trn l f 0 0 l := ⟨h, rfl, by simp, by simp, fun _ => rfl⟩
theorem Trn.skip {l c : List Nat} {f i m : Nat} (h : Trn l f i m c) : Trn l f (i + 1) m c := ⟨h.byt, h.len, by have := h.lt; rw [Nat.pow_succ]; omega, h.eq, h.zero⟩

theorem xor_shift (m i f : Nat) : (m ^^^ 2 ^ i) * 2 ^ f = m * 2 ^ f ^^^ 2 ^ (f + i) := by
  apply Nat.eq_of_testBit_eq
  intro j
  rw [Nat.pow_add, Nat.mul_comm (2 ^ f) (2 ^ i)]
  simp only [Nat.testBit_xor, Nat.testBit_mul_two_pow]
  by_cases h : f ≤ j <;> simp [h]

theorem bit_in {m i : Nat} (h : m < 2 ^ i) : m ^^^ 2 ^ i ≠ 0 ∧ m ^^^ 2 ^ i < 2 ^ (i + 1) := by
  constructor
  · intro h0
    have : (m ^^^ 2 ^ i).testBit i = true := by
      rw [Nat.testBit_xor, Nat.testBit_lt_two_pow h, Nat.testBit_two_pow_self]
      rfl
    rw [h0] at this
    simp at this
  · refine Nat.xor_lt_two_pow ?_ ?_
    · rw [Nat.pow_succ]; omega
    · exact Nat.pow_lt_pow_right (by omega) (by omega)

theorem Byt.set {l : List Nat} (h : Byt l) (j : Nat) {x : Nat} (hx : x < 256) : Byt (l.set j x) := fun b hb => by
  rcases List.mem_or_eq_of_mem_set hb with h1 | h1
  · exact h b h1
  · omega

theorem xor_bit_lt {x t : Nat} (hx : x < 256) (ht : t < 8) : x ^^^ 2 ^ t < 256 := Nat.xor_lt_two_pow (n := 8) hx (Nat.pow_lt_pow_right (by omega) ht)

theorem get_byt {l : List Nat} (h : Byt l) (j : Nat) : l[j]?.getD 0 < 256 := by
  rcases Nat.lt_or_ge j l.length with h1 | h1
  · rw [List.getElem?_eq_getElem h1]
    exact h _ (List.getElem_mem h1)
  · rw [List.getElem?_eq_none h1]
    simp

/-- one bit more -/
theorem Trn.turn {l c : List Nat} {f i m : Nat} (h : Trn l f i m c) (hk : (f + i) / 8 < l.length) : Trn l f (i + 1) (m ^^^ 2 ^ i) (c.set ((f + i) / 8) (c[(f + i) / 8]?.getD 0 ^^^ 2 ^ ((f + i) % 8))) := by
  have hb := bit_in h.lt
  have ht : (f + i) % 8 < 8 := Nat.mod_lt _ (by omega)
  refine ⟨h.byt.set _ (xor_bit_lt (get_byt h.byt _) ht), by rw [List.length_set]; exact h.len, hb.2, ?_, fun h0 => absurd h0 hb.1⟩
  rw [le_set c _ _ h.byt (by rw [h.len]; exact hk) ht, h.eq, Nat.xor_assoc, xor_shift]
  congr 2
  congr 1
  omega

theorem Trn.told32 {l c : List Nat} {f i m : Nat} (h : Trn l f i m c) (hl : Byt l) (hi : i ≤ 32) (hf : f ≤ 8 * l.length) (h0 : m ≠ 0) : S32 c ≠ S32 l := by
  have hm : m < 2 ^ (31 + 1) := Nat.lt_of_lt_of_le h.lt (Nat.pow_le_pow_right (by omega) hi)
  have := burst (p := P32) (w := 31) (by decide) (by decide) 4294967295 f m l c hl h.byt h.len hm h0 hf h.eq
  have h1 := sm32_lt c 4294967295 (by omega) h.byt
  have h2 := sm32_lt l 4294967295 (by omega) hl
  unfold S32
  omega

theorem Trn.told16 {l d : List Nat} {f i m : Nat} (h : Trn (l.map (rev 8)) f i m (d.map (rev 8))) (hi : i ≤ 16) (hf : f ≤ 8 * l.length) (h0 : m ≠ 0) : S16 d ≠ S16 l := by
  have hm : m < 2 ^ (15 + 1) := Nat.lt_of_lt_of_le h.lt (Nat.pow_le_pow_right (by omega) hi)
  have hb := burst (p := P16) (w := 15) (by decide) (by decide) 65535 f m (l.map (rev 8)) (d.map (rev 8)) (Byt.rev8 l) h.byt h.len hm h0 (by rw [List.length_map]; exact hf) h.eq
  intro e
  exact hb (rev_inj (w := 16) (sm16_lt _ _ (by omega) (Byt.rev8 d)) (sm16_lt _ _ (by omega) (Byt.rev8 l)) e)

theorem map_set_rev (d : List Nat) (j t : Nat) (ht : t < 8) : (d.set j (d[j]?.getD 0 ^^^ 2 ^ (7 - t))).map (rev 8) = (d.map (rev 8)).set j ((d.map (rev 8))[j]?.getD 0 ^^^ 2 ^ t) := by
  rw [List.map_set, rev_turn ht]
  congr 2
  rw [List.getElem?_map]
  cases d[j]? with
  | none => decide
  | some x => rfl

theorem map_rev_inj {l d : List Nat} (hl : Byt l) (hd : Byt d) (h : d.map (rev 8) = l.map (rev 8)) : d = l := by
  have hlen : d.length = l.length := by
    have := congrArg List.length h
    simpa using this
  refine List.ext_getElem hlen (fun j h1 h2 => ?_)
  have := congrArg (·[j]?) h
  simp only [List.getElem?_map, List.getElem?_eq_getElem h1, List.getElem?_eq_getElem h2, Option.map_some, Option.some.injEq] at this
  exact rev_inj (w := 8) (hd _ (List.getElem_mem h1)) (hl _ (List.getElem_mem h2)) this

theorem str_inj {l c : List Nat} (hl : Byt l) (hc : Byt c) (h : str c = str l) : c = l := by
  rw [← tx_str hl, ← tx_str hc, h]
end Crc
end Go.Proofs.YtleehhpodgbomaaGreatDoor
/- Words and their bytes, as numbers. -/
namespace Go.Proofs.YtleehhpodgbomaaGreatDoor
namespace Pack

def Byt (l : List Nat) : Prop := ∀ b ∈ l, b < 256
theorem Byt.take {l : List Nat} (h : Byt l) (n : Nat) : Byt (l.take n) := fun b hb => h b (List.mem_of_mem_take hb)

/-- a word's bytes, the lowest first -/
def wb (x : Nat) : List Nat := (List.range 8).map fun k => x / 256 ^ k % 256
theorem wb_len (x : Nat) : (wb x).length = 8 := by simp [wb]
theorem wb_get {x k : Nat} (h : k < (wb x).length) : (wb x)[k] = x / 256 ^ k % 256 := by simp [wb]
theorem wb_byt (x : Nat) : Byt (wb x) := by
  intro b hb
  obtain ⟨k, _, rfl⟩ := List.mem_map.1 hb
  exact Nat.mod_lt _ (by omega)

/-- words' bytes -/
def wflat (l : List Nat) : List Nat := l.flatMap wb
theorem wflat_take {l : List Nat} {m : Nat} (h : m < l.length) : wflat (l.take (m + 1)) = wflat (l.take m) ++ wb l[m] := by
  unfold wflat
  rw [List.take_succ_eq_append_getElem h, List.flatMap_append]
  simp
theorem wflat_byt (l : List Nat) : Byt (wflat l) := by
  intro b hb
  obtain ⟨q, _, hb⟩ := List.mem_flatMap.1 hb
  exact wb_byt q b hb
theorem wflat_len (l : List Nat) : (wflat l).length = 8 * l.length := by
  unfold wflat
  induction l with
  | nil => rfl
  | cons x l ih => rw [List.flatMap_cons, List.length_append, ih, wb_len, List.length_cons]; omega
theorem wflat_get : ∀ {l : List Nat} {i j : Nat} (h : i < l.length), j < 8 → (wflat l)[8 * i + j]?.getD 0 = l[i] / 256 ^ j % 256
  | x :: l, 0, j, _, hj => by
    unfold wflat
    rw [List.flatMap_cons, List.getElem?_append_left (by rw [wb_len]; omega), List.getElem?_eq_getElem (by rw [wb_len]; omega), wb_get]
    simp
  | x :: l, i + 1, j, h, hj => by
    have := wflat_get (l := l) (i := i) (j := j) (by simpa using h) hj
    have e : 8 * (i + 1) + j = 8 * i + j + (wb x).length := by rw [wb_len]; omega
    have e2 : wflat (x :: l) = wb x ++ wflat l := by simp [wflat]
    rw [e2, e, List.getElem?_append_right (by omega), Nat.add_sub_cancel, this]
    simp

theorem div_pow (x j : Nat) : x / 256 ^ (j + 1) = x / 256 ^ j / 256 := by rw [Nat.pow_succ, Nat.div_div_eq_div_mul]

/-- a byte of a row, 0 where there is none -/
def at0 (b : List Nat) (k : Nat) : Nat := b[k]?.getD 0
theorem at0_lt {b : List Nat} (h : Byt b) (k : Nat) : at0 b k < 256 := by
  unfold at0
  rcases Nat.lt_or_ge k b.length with h1 | h1
  · rw [List.getElem?_eq_getElem h1]
    exact h _ (List.getElem_mem h1)
  · rw [List.getElem?_eq_none h1]
    simp
theorem at0_get {b : List Nat} {k : Nat} (h : k < b.length) : at0 b k = b[k] := by
  unfold at0
  rw [List.getElem?_eq_getElem h]
  rfl
theorem at0_none {b : List Nat} {k : Nat} (h : b.length ≤ k) : at0 b k = 0 := by
  unfold at0
  rw [List.getElem?_eq_none h]
  rfl

/-- word i, of its first n bytes -/
def part (b : List Nat) (i : Nat) : Nat → Nat
  | 0 => 0
  | n + 1 => part b i n + at0 b (8 * i + n) * 256 ^ n

theorem part_lt {b : List Nat} (h : Byt b) (i : Nat) : ∀ n, part b i n < 256 ^ n
  | 0 => by simp [part]
  | n + 1 => by
    have h1 := part_lt h i n
    have h2 := at0_lt h (8 * i + n)
    have h3 : at0 b (8 * i + n) * 256 ^ n ≤ 255 * 256 ^ n := Nat.mul_le_mul_right _ (by omega)
    rw [part, Nat.pow_succ]
    omega

theorem part_end {b : List Nat} {i j : Nat} (h : b.length ≤ 8 * i + j) : ∀ d, part b i (j + d) = part b i j
  | 0 => rfl
  | d + 1 => by
    rw [← Nat.add_assoc, part, part_end h d, at0_none (by omega), Nat.zero_mul, Nat.add_zero]

/-- the words of bytes -/
def wrds (b : List Nat) : List Nat := (List.range ((b.length + 7) / 8)).map fun i => part b i 8
theorem wrds_len (b : List Nat) : (wrds b).length = (b.length + 7) / 8 := by simp [wrds]
theorem wrds_get {b : List Nat} {i : Nat} (h : i < (wrds b).length) : (wrds b)[i] = part b i 8 := by simp [wrds]
theorem wrds_u64 {b : List Nat} (h : Byt b) : ∀ x ∈ wrds b, x < 18446744073709551616 := by
  intro x hx
  obtain ⟨i, _, rfl⟩ := List.mem_map.1 hx
  exact part_lt h i 8

/-- words' bytes are their words -/
theorem part_wflat {l : List Nat} {i : Nat} (h : i < l.length) : ∀ n, n ≤ 8 → part (wflat l) i n = l[i] % 256 ^ n
  | 0, _ => by simp [part, Nat.mod_one]
  | n + 1, hn => by
    rw [part, part_wflat h n (by omega), at0, wflat_get h (by omega), Nat.mod_pow_succ, Nat.mul_comm]
theorem wrds_wflat {l : List Nat} (h : ∀ x ∈ l, x < 18446744073709551616) : wrds (wflat l) = l := by
  apply List.ext_getElem
  · rw [wrds_len, wflat_len]
    omega
  · intro i h1 h2
    rw [wrds_get, part_wflat h2 8 (by omega), Nat.mod_eq_of_lt]
    exact h _ (List.getElem_mem h2)

/-- a byte of a word -/
theorem part_byte {b : List Nat} (h : Byt b) (i : Nat) : ∀ n j, j < n → part b i n / 256 ^ j % 256 = at0 b (8 * i + j)
  | n + 1, j, hj => by
    rw [part]
    rcases Nat.lt_or_ge j n with h1 | h1
    · obtain ⟨d, rfl⟩ : ∃ d, n = j + (d + 1) := ⟨n - j - 1, by omega⟩
      rw [Nat.pow_add, ← Nat.mul_assoc, Nat.mul_comm (at0 b _ ) (256 ^ j), Nat.mul_assoc, Nat.add_mul_div_left _ _ (Nat.pow_pos (by omega)), Nat.pow_succ, ← Nat.mul_assoc, Nat.add_mul_mod_self_right]
      exact part_byte h i _ j (by omega)
    · obtain rfl : j = n := by omega
      have h2 := part_lt h i j
      rw [Nat.add_mul_div_right _ _ (Nat.pow_pos (by omega)), Nat.div_eq_of_lt h2, Nat.zero_add, Nat.mod_eq_of_lt (at0_lt h _)]

theorem wflat_at {l : List Nat} {k : Nat} (h : k < 8 * l.length) : at0 (wflat l) k = l[k / 8] / 256 ^ (k % 8) % 256 := by
  have := wflat_get (l := l) (i := k / 8) (j := k % 8) (by omega) (by omega)
  rw [← this, at0]
  congr 2
  omega

/-- bytes' words' bytes are these, and noughts -/
theorem wflat_wrds {b : List Nat} (h : Byt b) {k : Nat} (hk : k < 8 * ((b.length + 7) / 8)) : at0 (wflat (wrds b)) k = at0 b k := by
  rw [wflat_at (by rw [wrds_len]; exact hk), wrds_get, part_byte h _ 8 _ (by omega)]
  congr 1
  omega

theorem back_len (b : List Nat) : (wflat (wrds b)).length = (b.length + 7) / 8 * 8 := by rw [wflat_len, wrds_len, Nat.mul_comm]
theorem back_take {b : List Nat} (h : Byt b) : (wflat (wrds b)).take b.length = b := by
  apply List.ext_getElem
  · rw [List.length_take, back_len]
    omega
  · intro i h1 h2
    rw [List.getElem_take, ← at0_get, wflat_wrds h (by omega), at0_get h2]
theorem back_drop {b : List Nat} (h : Byt b) {k : Nat} (hk : k < ((wflat (wrds b)).drop b.length).length) : ((wflat (wrds b)).drop b.length)[k] = 0 := by
  rw [List.length_drop, back_len] at hk
  rw [List.getElem_drop, ← at0_get, wflat_wrds h (by omega), at0_none (by omega)]

/-- a word from its highest byte on, n bytes of it -/
def up (b : List Nat) (i : Nat) : Nat → Nat
  | 0 => 0
  | n + 1 => 256 * up b i n + at0 b (8 * i + (7 - n))
theorem up_lt {b : List Nat} (h : Byt b) (i : Nat) : ∀ n, up b i n < 256 ^ n
  | 0 => by simp [up]
  | n + 1 => by
    have h1 := up_lt h i n
    have h2 := at0_lt h (8 * i + (7 - n))
    rw [up, Nat.pow_succ]
    omega
theorem up_part (b : List Nat) (i M : Nat) (hM : M = 7) (n : Nat) : ∀ d, d + n = M + 1 → part b i d + up b i n * 256 ^ d = part b i (M + 1) := by
  induction n with
  | zero => intro d h; rw [up, Nat.zero_mul, Nat.add_zero, ← h, Nat.add_zero]
  | succ n ih =>
    intro d h
    have h1 := ih (d + 1) (by omega)
    have e2 : 7 - n = d := by omega
    rw [part, Nat.pow_succ] at h1
    rw [up, e2, ← h1, Nat.add_mul, Nat.add_assoc]
    congr 1
    rw [Nat.add_comm]
    congr 1
    rw [Nat.mul_comm 256, Nat.mul_assoc, Nat.mul_comm 256]
theorem up_word (b : List Nat) (i : Nat) : up b i 8 = part b i 8 := by
  have h := up_part b i 7 rfl 8 0 rfl
  have e : part b i 0 = 0 := rfl
  rw [e, Nat.zero_add, Nat.pow_zero, Nat.mul_one] at h
  exact h
end Pack
end Go.Proofs.YtleehhpodgbomaaGreatDoor
/- Bytes in memory and as a text; the program's bytes of words. -/
namespace Go.Proofs.YtleehhpodgbomaaGreatDoor
open Go.RowKit Go.MapKept
namespace Pack

/-- these bytes lie at A -/
structure Bts (w : World) (A : Option Addr) (l : List Nat) : Prop where
  byt : Byt l
  len : l.length ≤ 9223372036854775807
  at' : ∀ j (h : j < l.length), ∃ b o, A = some ⟨b, o, none⟩ ∧ b < w.heap.size ∧ w.cell? ⟨b, o + j, none⟩ = some (.int .u8 (l[j] : Int))

theorem Bts.keep {w w' : World} {A : Option Addr} {l : List Nat} (h : Bts w A l) (hb : Below w.heap.size w w') : Bts w' A l :=
  ⟨h.byt, h.len, fun j hj => by
    obtain ⟨b, o, e, hlt, hc⟩ := h.at' j hj
    exact ⟨b, o, e, Nat.lt_of_lt_of_le hlt hb.size, (hb.cell (p := ⟨b, o + j, none⟩) hlt).trans hc⟩⟩
theorem Bts.alloc {w : World} {A : Option Addr} {l : List Nat} (h : Bts w A l) (o : Obj) : Bts (w.alloc o) A l := h.keep ((Below.refl _ _).alloc (Nat.le_refl _) o)

theorem ofNat_toNat {b : Nat} (h : b < 256) : (UInt8.ofNat b).toNat = b := by
  rw [UInt8.toNat_ofNat']
  omega

/-- the text of bytes -/
def str (l : List Nat) : ByteArray := ⟨(l.map UInt8.ofNat).toArray⟩
theorem str_size (l : List Nat) : (str l).size = l.length := by
  show ((l.map UInt8.ofNat).toArray).size = _
  rw [List.size_toArray, List.length_map]

theorem conv_str {W : World} {A : Option Addr} {l : List Nat} (c : Nat) (h : Bts W A l) : (convert 132 9 (.slice A l.length c)).run Tryz.prog W = .ok (.string (str l)) W := by
  cases A with
  | none =>
    have hl : l = [] := by
      cases l with
      | nil => rfl
      | cons b l =>
        obtain ⟨_, _, e, _⟩ := h.at' 0 (by simp)
        cases e
    subst hl
    exact run_convert_bytes_nil W _ _ Tryz.underlying132 Tryz.underlying5 0 c _ Tryz.underlying9
  | some a =>
    have hr := run_convert_bytes_back (P := Tryz.prog) W 132 9 5 a c (l.map UInt8.ofNat) Tryz.underlying132 Tryz.underlying5 Tryz.underlying9 (fun j hj => by
      rw [List.length_map] at hj
      obtain ⟨b, o, e, _, hc⟩ := h.at' j hj
      injection e with e
      subst e
      rw [Go.WideShapes.add_plain, hc, List.getElem_map, ofNat_toNat (h.byt _ (List.getElem_mem hj))])
    rw [List.length_map] at hr
    exact hr

/-- bytes as cells -/
def u8s (l : List Nat) : List Value := l.map fun b : Nat => Value.int .u8 (b : Int)
theorem u8s_one (l : List Nat) : ∀ u ∈ u8s l, u.oneCell' = true := by
  intro u hu
  obtain ⟨x, _, rfl⟩ := List.mem_map.1 hu
  rfl

theorem own_bts {W : World} {B n c : Nat} {G : Option Addr} {l : List Nat} (h : W.ownsRow B 5 1 (.slice G n c) n (u8s l)) (hb : Byt l) (hm : n ≤ 9223372036854775807) : Bts W G l := by
  have hl : l.length = n := by
    have := h.1
    simpa [u8s] using this
  refine ⟨hb, by omega, fun j hj => ?_⟩
  obtain ⟨g, e, h1, h2⟩ := own_cells h j (by omega)
  refine ⟨g, 0, e, h1, ?_⟩
  rw [h2, u8s, List.getElem?_map, List.getElem?_eq_getElem hj]
  rfl

theorem row_cap {W : World} {B n c : Nat} {e : TypeId} {s : Nat} {G : Option Addr} {xs : List Value} (h : W.ownsRow B e s (.slice G n c) n xs) : n ≤ c := by
  rcases h.2 with ⟨e, h0⟩ | ⟨g, cap, cur, e, _, _, hc, _⟩
  · omega
  · injection e with _ _ e
    omega

theorem u8_info : (Tryz.prog.info? 5).map (fun i => (i.zero, i.size, i.bytes)) = some (some (.int .u8 0), 1, 1) := by kernel_rfl

/-- bytes of the call's own -/
def Got (w wr : World) (G : Option Addr) (n gc : Nat) (bs : List Nat) : Prop := wr.ownsRow w.heap.size 5 1 (.slice G n gc) n (u8s bs) ∧ Below w.heap.size w wr

section
variable {w : World}
set_option maxHeartbeats 1600000 in
set_option maxRecDepth 100000 in
theorem refBytes_any (A : Option Addr) (c : Nat) (l : List Nat) (h : Wds w A l) (h60 : l.length ≤ 60) :
    Calls Tryz.prog 90 #[.slice A l.length c] w fun e w' => e = .returned (.string (str (wflat l))) ∧ Below w.heap.size w w' := by
  have H := Lib.hid h
  clear h
  go_enter Tryz.func90, Tryz.ntmps90
  go_wp2
  go_loopw [3, 8] (fun v i wr => ∃ (m : Nat) (G : Option Addr) (gc : Nat), m ≤ l.length ∧ i = .int .i64 (m : Int) ∧ v = .slice G (8 * m) gc ∧ Got w wr G (8 * m) gc (wflat (l.take m))) (fun _ i _ => l.length - (intOf i).toNat)
  case atStart => exact ⟨0, none, 0, Nat.zero_le _, rfl, rfl, ⟨by rw [List.take_zero]; rfl, .inl ⟨rfl, rfl⟩⟩, Below.refl _ _⟩
  case round =>
    obtain ⟨m, G, gc, hm, rfl, rfl, hgot⟩ := hrel
    by_cases hlt : m < l.length
    · obtain ⟨b, o, rfl, hb, hcell0⟩ := H.out.at' m hlt
      have hcell := (hgot.2.cell (p := ⟨b, o + m, none⟩) hb).trans hcell0
      have hx := H.out.u64 _ (List.getElem_mem hlt)
      have HR := Lib.hid (wflat_take hlt)
      have HG := Lib.hid hgot
      generalize l[m] = x at *
      clear hgot hcell0
      go_wp2
      go_loopw [3, 5, 12] (fun v y i w2 => ∃ (j : Nat) (G : Option Addr) (gc : Nat), j ≤ 8 ∧ i = .int .i64 (j : Int) ∧ y = .int .u64 ((x / 256 ^ j : Nat) : Int) ∧ v = .slice G (8 * m + j) gc ∧ Got w w2 G (8 * m + j) gc (wflat (l.take m) ++ (wb x).take j)) (fun _ _ i _ => 8 - (intOf i).toNat)
      case atStart => exact ⟨0, G, gc, Nat.zero_le _, rfl, by simp, rfl, by simpa using HG.out⟩
      case round =>
        obtain ⟨j, G2, gc2, hj, rfl, rfl, rfl, hgot2⟩ := hrel
        by_cases hjl : j < 8
        · have hjw : j < (wb x).length := by rw [wb_len]; exact hjl
          have e1 : (wb x).take (j + 1) = (wb x).take j ++ [x / 256 ^ j % 256] := by rw [List.take_succ_eq_append_getElem hjw, wb_get]
          have e2 := div_pow x j
          have hyl : x / 256 ^ j < 18446744073709551616 := Nat.lt_of_le_of_lt (Nat.div_le_self _ _) hx
          have HE1 := Lib.hid e1
          have HE2 := Lib.hid e2
          generalize x / 256 ^ j = y at *
          obtain ⟨i0, hi0, hz0, hz1, hz2⟩ := info_parts u8_info
          have HOWN := Lib.hid (hgot2.1.alloc (.cells #[.int .u8 ((y : Int) % 256)] 5))
          have HB2 := Lib.hid hgot2.2
          have HRW := Lib.hid hgot2.1
          clear hgot2 e1 e2 hx
          go_wp2_with (at_builtin; refine wpList_append_own_at _ rfl (.tmp 14) (.tmp 18) 132 rfl w.heap.size 5 i0 (.int .u8 0) 1 1 Tryz.underlying132 hi0 hz0 hz1 hz2 rfl (by decide) (.slice G2 (8 * m + j) gc2) (8 * m + j) (u8s (wflat (l.take m) ++ (wb x).take j)) rfl HOWN.out ⟨wr.heap.size, 0, none⟩ 1 1 [.int .u8 ((y : Int) % 256)] rfl rfl (cell_one_new _ _ _) (by simp [Value.oneCell']) (by unfold maxLen; omega) (by omega) (by have := HB2.out.size; simp; omega) ?_
                       intro v' w3 hown3 hgr3 _ _
                       obtain ⟨G', gc', rfl⟩ := row_slice hown3
                       have HO3 := Lib.hid hown3
                       have HG3 := Lib.hid hgr3
                       clear hown3 hgr3)
          refine ⟨⟨j + 1, G', gc', by omega, by go_num, ?_, rfl, ?_, ?_⟩, by simp [intOf]; omega⟩
          · rw [HE2.out]
            rfl
          · have e : u8s (wflat (l.take m) ++ (wb x).take (j + 1)) = u8s (wflat (l.take m) ++ (wb x).take j) ++ [.int .u8 ((y : Int) % 256)] := by
              rw [HE1.out, ← List.append_assoc]
              simp only [u8s, List.map_append]
              rfl
            rw [e]
            exact HO3.out
          · exact (HB2.out.alloc HB2.out.size _).grown HG3.out (by have := HB2.out.size; simp; omega) (fun k hk => row_base_lt HRW.out hk)
        · obtain rfl : j = 8 := by omega
          rw [List.take_of_length_le (l := wb x) (by rw [wb_len]; exact Nat.le_refl _), ← HR.out] at hgot2
          have HG2 := Lib.hid hgot2
          clear hgot2
          go_wp2
          exact ⟨⟨m + 1, G2, gc2, by omega, by go_num, rfl, HG2.out⟩, by simp [intOf]; omega⟩
    · obtain rfl : m = l.length := by omega
      rw [List.take_length] at hgot
      have hcv := conv_str gc (own_bts hgot.1 (wflat_byt l) (by omega))
      rw [wflat_len] at hcv
      have HB := Lib.hid hgot.2
      clear hgot
      go_wp2
      go_ret
      exact ⟨rfl, HB.out⟩

set_option maxHeartbeats 1600000 in
set_option maxRecDepth 100000 in
theorem bytes_any (A : Option Addr) (c : Nat) (l : List Nat) (h : Wds w A l) (h60 : l.length ≤ 1000000000000) :
    Calls Tryz.prog 67 #[.slice A l.length c] w fun e w' => ∃ (G : Option Addr) (gc : Nat), e = .returned (.slice G (8 * l.length) gc) ∧ 8 * l.length ≤ gc ∧ Bts w' G (wflat l) ∧ Below w.heap.size w w' := by
  have H := Lib.hid h
  clear h
  obtain ⟨i0, hi0, hz0, hz1, hz2⟩ := info_parts u8_info
  obtain ⟨w1, hmk, hown, hgr⟩ := run_make_own (P := Tryz.prog) w w.heap.size 132 5 i0 (.int .u8 0) 1 Tryz.underlying132 hi0 hz0 hz1 .i64 .i64 (8 * l.length) (by rw [hz2]; omega) (by unfold maxLen; omega) (Nat.le_refl _)
  have HOW := Lib.hid (show Got w w1 (some ⟨w.heap.size, 0, none⟩) 0 (8 * l.length) [] from ⟨hown, (Below.refl _ _).grown hgr (Nat.le_refl _) (fun k hk => by cases hk)⟩)
  have hmk2 : ((8 * l.length : Nat) : Int) = 8 * (l.length : Int) := by omega
  rw [hmk2] at hmk
  clear hown hgr
  clear hmk2
  go_enter Tryz.func67, Tryz.ntmps67
  go_wp2
  go_loopw [3, 13] (fun v i wr => ∃ (m : Nat) (G : Option Addr) (gc : Nat), m ≤ l.length ∧ i = .int .i64 (m : Int) ∧ v = .slice G (8 * m) gc ∧ Got w wr G (8 * m) gc (wflat (l.take m))) (fun _ i _ => l.length - (intOf i).toNat)
  case atStart => exact ⟨0, _, _, Nat.zero_le _, rfl, rfl, HOW.out⟩
  case round =>
    obtain ⟨m, G, gc, hm, rfl, rfl, hgot⟩ := hrel
    by_cases hlt : m < l.length
    · obtain ⟨b, o, rfl, hb, hcell0⟩ := H.out.at' m hlt
      have hcell := (hgot.2.cell (p := ⟨b, o + m, none⟩) hb).trans hcell0
      have hx := H.out.u64 _ (List.getElem_mem hlt)
      have HR := Lib.hid (wflat_take hlt)
      have HG := Lib.hid hgot
      generalize l[m] = x at *
      clear hgot hcell0 hmk
      go_wp2
      go_loopw [3, 17] (fun v i w2 => ∃ (j : Nat) (G : Option Addr) (gc : Nat), j ≤ 8 ∧ i = .int .i64 (j : Int) ∧ v = .slice G (8 * m + j) gc ∧ Got w w2 G (8 * m + j) gc (wflat (l.take m) ++ (wb x).take j)) (fun _ i _ => 8 - (intOf i).toNat)
      case atStart => exact ⟨0, G, gc, Nat.zero_le _, rfl, rfl, by simpa using HG.out⟩
      case round =>
        obtain ⟨j, G2, gc2, hj, rfl, rfl, hgot2⟩ := hrel
        by_cases hjl : j < 8
        · have hjw : j < (wb x).length := by rw [wb_len]; exact hjl
          have e1 : (wb x).take (j + 1) = (wb x).take j ++ [x / 256 ^ j % 256] := by rw [List.take_succ_eq_append_getElem hjw, wb_get]
          have hyl : x / 256 ^ j < 18446744073709551616 := Nat.lt_of_le_of_lt (Nat.div_le_self _ _) hx
          have hsh : (x : Int) / 2 ^ (j * 8) = ((x / 256 ^ j : Nat) : Int) := by
            have : 256 ^ j = 2 ^ (j * 8) := by rw [Nat.mul_comm j 8, Nat.pow_mul]
            rw [this]
            simp
          have HE1 := Lib.hid e1
          generalize x / 256 ^ j = y at *
          have HOWN := Lib.hid (hgot2.1.alloc (.cells #[.int .u8 ((y : Int) % 256)] 5))
          have HB2 := Lib.hid hgot2.2
          have HRW := Lib.hid hgot2.1
          clear hgot2 e1
          go_wp2_with (at_builtin; refine wpList_append_own_at _ rfl (.tmp 20) (.tmp 26) 132 rfl w.heap.size 5 i0 (.int .u8 0) 1 1 Tryz.underlying132 hi0 hz0 hz1 hz2 rfl (by decide) (.slice G2 (8 * m + j) gc2) (8 * m + j) (u8s (wflat (l.take m) ++ (wb x).take j)) rfl HOWN.out ⟨wr.heap.size, 0, none⟩ 1 1 [.int .u8 ((y : Int) % 256)] rfl rfl (cell_one_new _ _ _) (by simp [Value.oneCell']) (by unfold maxLen; omega) (by omega) (by have := HB2.out.size; simp; omega) ?_
                       intro v' w3 hown3 hgr3 _ _
                       obtain ⟨G', gc', rfl⟩ := row_slice hown3
                       have HO3 := Lib.hid hown3
                       have HG3 := Lib.hid hgr3
                       clear hown3 hgr3)
          refine ⟨⟨j + 1, G', gc', by omega, by go_num, rfl, ?_, ?_⟩, by simp [intOf]; omega⟩
          · have e : u8s (wflat (l.take m) ++ (wb x).take (j + 1)) = u8s (wflat (l.take m) ++ (wb x).take j) ++ [.int .u8 ((y : Int) % 256)] := by
              rw [HE1.out, ← List.append_assoc]
              simp only [u8s, List.map_append]
              rfl
            rw [e]
            exact HO3.out
          · exact (HB2.out.alloc HB2.out.size _).grown HG3.out (by have := HB2.out.size; simp; omega) (fun k hk => row_base_lt HRW.out hk)
        · obtain rfl : j = 8 := by omega
          rw [List.take_of_length_le (l := wb x) (by rw [wb_len]; exact Nat.le_refl _), ← HR.out] at hgot2
          have HG2 := Lib.hid hgot2
          clear hgot2
          go_wp2
          exact ⟨⟨m + 1, G2, gc2, by omega, by go_num, rfl, HG2.out⟩, by simp [intOf]; omega⟩
    · obtain rfl : m = l.length := by omega
      rw [List.take_length] at hgot
      have HW := Lib.hid (own_bts hgot.1 (wflat_byt l) (by omega))
      have HC := Lib.hid (row_cap hgot.1)
      have HB := Lib.hid hgot.2
      clear hgot hmk
      go_wp2
      go_ret
      exact ⟨G, gc, rfl, HC.out, HW.out, HB.out⟩
end
end Pack
end Go.Proofs.YtleehhpodgbomaaGreatDoor
/- The program's words of bytes, and the document's. -/
namespace Go.Proofs.YtleehhpodgbomaaGreatDoor
open Go.RowKit Go.MapKept
namespace Pack

/-- a word behind k bytes -/
def cellOf (b : List Nat) (k i : Nat) : Value := .int .u64 ((part b i (min 8 (k - 8 * i)) : Nat) : Int)

theorem cellOf_step {b : List Nat} {k : Nat} (_h : k < b.length) (j : Nat) : (if j = k / 8 then Value.int .u64 ((part b (k / 8) (k % 8) + at0 b k * 256 ^ (k % 8) : Nat) : Int) else cellOf b k j) = cellOf b (k + 1) j := by
  unfold cellOf
  by_cases h : j = k / 8
  · subst h
    have e1 : min 8 (k + 1 - 8 * (k / 8)) = k % 8 + 1 := by omega
    have e2 : 8 * (k / 8) + k % 8 = k := by omega
    rw [if_pos rfl, e1, part, e2]
  · rw [if_neg h]
    have e1 : min 8 (k + 1 - 8 * j) = min 8 (k - 8 * j) := by omega
    rw [e1]

theorem row_words {W : World} {g : Nat} {b : List Nat} (h : W.rowIs g 71 ((b.length + 7) / 8) (cellOf b b.length)) (hb : Byt b) (hn : b.length ≤ 9223372036854775807) : Wds W (some ⟨g, 0, none⟩) (wrds b) :=
  ⟨wrds_u64 hb, by rw [wrds_len]; omega, fun j hj => ⟨g, 0, rfl, h.lt, by
    rw [wrds_get]
    rw [wrds_len] at hj
    rw [Nat.zero_add, h.cell hj]
    unfold cellOf
    by_cases h8 : 8 ≤ b.length - 8 * j
    · rw [Nat.min_eq_left h8]
    · rw [Nat.min_eq_right (by omega)]
      have := part_end (b := b) (i := j) (j := b.length - 8 * j) (by omega) (8 - (b.length - 8 * j))
      rw [← this]
      congr 4
      omega⟩⟩

section
variable {w : World}
set_option maxHeartbeats 1600000 in
set_option maxRecDepth 100000 in
theorem words_any (A : Option Addr) (c : Nat) (l : List Nat) (h : Bts w A l) (hlen : l.length ≤ 1000000000000) :
    Calls Tryz.prog 112 #[.slice A l.length c] w fun e w' => ∃ (G : Option Addr) (gc : Nat), e = .returned (.slice G (wrds l).length gc) ∧ Wds w' G (wrds l) ∧ Below w.heap.size w w' := by
  have H := Lib.hid h
  clear h
  have HN := Lib.hid (wrds_len l)
  obtain ⟨n, hn⟩ : ∃ n, n = (l.length + 7) / 8 := ⟨_, rfl⟩
  have hmk := run_make_row' (P := Tryz.prog) 22 71 _ 8 Tryz.underlying22 u64_info rfl .i64 .i64 n (by omega) (by omega) w
  have hrow : (w.alloc (.cells (madeCells #[.int .u64 0] n) 71)).rowIs w.heap.size 71 n (cellOf l 0) := (World.rowIs_made w (.int .u64 0) n 71).congr (fun i _ => by simp [cellOf, part])
  have hbel : Below w.heap.size w (w.alloc (.cells (madeCells #[.int .u64 0] n) 71)) := (Below.refl _ _).alloc (Nat.le_refl _) _
  have HR := Lib.hid hrow
  have HB := Lib.hid hbel
  generalize w.alloc (.cells (madeCells #[.int .u64 0] n) 71) = w1 at *
  clear hrow hbel
  have hq : ((l.length : Int) + 8 - 1) / 8 = (n : Int) := by omega
  rw [← hq] at hmk
  have HNN := Lib.hid hn
  clear hn hq
  go_enter Tryz.func112, Tryz.ntmps112
  go_wp2
  go_loopw [14] (fun i wr => ∃ (k : Nat), k ≤ l.length ∧ i = .int .i64 (k : Int) ∧ wr.rowIs w.heap.size 71 n (cellOf l k) ∧ Below w.heap.size w wr) (fun i _ => l.length - (intOf i).toNat)
  case atStart => exact ⟨0, Nat.zero_le _, rfl, HR.out, HB.out⟩
  case round =>
    obtain ⟨k, hk, rfl, hrow, hbel⟩ := hrel
    have hn := HNN.out
    by_cases hlt : k < l.length
    · obtain ⟨b, o, rfl, hb, hcell⟩ := H.out.at' k hlt
      have hca := (hbel.cell (p := ⟨b, o + k, none⟩) hb).trans hcell
      clear hcell
      have hxb : l[k] < 256 := H.out.byt _ (List.getElem_mem hlt)
      have HS := Lib.hid (cellOf_step hlt)
      rw [at0_get hlt] at HS
      have hdn : k / 8 < n := by omega
      have hc0 := hrow.cell hdn
      have hf0 := hrow.frozen (k / 8)
      have hpl := part_lt H.out.byt (k / 8) (k % 8)
      have hmin : min 8 (k - 8 * (k / 8)) = k % 8 := by omega
      unfold cellOf at hc0
      rw [hmin] at hc0
      generalize part l (k / 8) (k % 8) = y at *
      generalize l[k] = x at *
      have ht : 256 ^ (k % 8) = 2 ^ (k % 8 * 8) := by rw [Nat.mul_comm (k % 8) 8, Nat.pow_mul]
      rw [ht] at hpl HS
      have ho := or_field y x (k % 8 * 8) 8 hpl (by omega) (by omega)
      have HW := Lib.hid hrow
      have HBW := Lib.hid hbel
      clear hrow hbel ht hmin
      have hwd : IntKind.wrap .i64 ((k : Int) / 8) = ((k / 8 : Nat) : Int) := by rw [IntKind.wrap_i64]; omega
      have hwt : IntKind.wrap .i64 ((k : Int) % 8 * 8) = ((k % 8 * 8 : Nat) : Int) := by rw [IntKind.wrap_i64]; omega
      have hwm : (k : Int) % 8 * 8 = ((k % 8 * 8 : Nat) : Int) := by omega
      have he : (k : Int) / 8 = ((k / 8 : Nat) : Int) := rfl
      have hel : ((k / 8 : Nat) : Int) < (n : Int) := by omega
      have hel0 : (0 : Int) ≤ ((k / 8 : Nat) : Int) := by omega
      have hfl : k % 8 * 8 ≤ 56 := by omega
      clear hn hmk
      generalize k % 8 * 8 = T at *
      generalize k / 8 = d at *
      have hwd2 : IntKind.wrap .i64 (d : Int) = (d : Int) := by rw [IntKind.wrap_i64]; omega
      have hwT2 : IntKind.wrap .i64 (T : Int) = (T : Int) := by rw [IntKind.wrap_i64]; omega
      have hT0 : (0 : Int) ≤ (T : Int) := by omega
      have hT1 : (T : Int) < 64 := by omega
      go_wp2
      go_region
      clear hwd hwt hwm he hwd2 hwT2
      go_wp2
      refine ⟨⟨k + 1, by omega, by go_num, ?_, (HBW.out.setCell (p := ⟨w.heap.size, d, none⟩) (Nat.le_refl _) _).drew⟩, by simp [intOf]; omega⟩
      have h2 := (HW.out.set d (.int .u64 ((y + x * 2 ^ T : Nat) : Int))).congr (fun j _ => HS.out j)
      have h3 := h2.drew
      simpa using h3
    · obtain rfl : k = l.length := by omega
      rw [HNN.out] at hrow
      have HW := Lib.hid (row_words hrow H.out.byt (by omega))
      have HBW := Lib.hid hbel
      clear hrow hbel hmk hn
      go_wp2
      go_ret
      refine ⟨_, n, ?_, HW.out, HBW.out⟩
      rw [HN.out, ← HNN.out]
      rfl
end
end Pack
end Go.Proofs.YtleehhpodgbomaaGreatDoor
/- A superblock as a list of words: a geometry's, and whose a list is. -/
namespace Go.Proofs.YtleehhpodgbomaaGreatDoor
open Go.RowKit Go.MapKept
namespace Sup

/-- the text's word -/
def magic : Nat := 3544409100874826051
/-- the text's bytes -/
def txt : List Nat := [67, 65, 78, 84, 76, 69, 48, 49]
theorem magic_lt : magic < 18446744073709551616 := by decide
theorem txt_word : Pack.wrds txt = [magic] := by decide

/-- the numbers' word -/
def nums (n m s : Nat) : Nat := n + 65536 * m + 4294967296 * s
/-- the words ahead of the sum -/
def front (n m s : Nat) : List Nat := [magic, nums n m s, 0, 0, 0, 0, 0]
/-- their sum -/
def sum (n m s : Nat) : Nat := Crc.S32 (Crc.wflat (front n m s))
/-- the superblock -/
def sb (n m s : Nat) : List Nat := [magic, nums n m s, 0, 0, 0, 0, 0, sum n m s]

theorem sb_len (n m s : Nat) : (sb n m s).length = 8 := rfl
theorem front_len (n m s : Nat) : (front n m s).length = 7 := rfl

theorem nums_lt {n m s : Nat} (hn : n < 65536) (hm : m < 65536) (hs : s < 65536) : nums n m s < 281474976710656 := by unfold nums; omega

theorem s32_lt (l : List Nat) : Crc.S32 l < 4294967296 := by
  unfold Crc.S32
  omega
theorem sum_lt (n m s : Nat) : sum n m s < 4294967296 := s32_lt _

theorem sb_u64 {n m s : Nat} (hn : n < 65536) (hm : m < 65536) (hs : s < 65536) : ∀ x ∈ sb n m s, x < 18446744073709551616 := by
  intro x hx
  have h1 := nums_lt hn hm hs
  have h2 := sum_lt n m s
  have h3 := magic_lt
  simp only [sb, List.mem_cons, List.not_mem_nil, or_false] at hx
  rcases hx with rfl | rfl | rfl | rfl | rfl | rfl | rfl | rfl <;> omega

theorem pk_nums {n m s : Nat} (hn : n < 65536) (hm : m < 65536) (hs : s < 65536) : Pack.pk 0 0 [⟨16, n⟩, ⟨16, m⟩, ⟨16, s⟩] = some (nums n m s, 48) := by
  unfold nums
  simp [Pack.pk, hn, hm, hs]
  omega

theorem split_nums (x : Nat) : Pack.split x [16, 16, 16] = if x < 281474976710656 then some [x % 65536, x / 65536 % 65536, x / 4294967296 % 65536] else none := by
  have h : Pack.tot 0 [16, 16, 16] = some 48 := by decide
  unfold Pack.split
  rw [h]
  have e : (2 : Nat) ^ 48 = 281474976710656 := rfl
  simp only [e]
  by_cases hx : x < 281474976710656
  · have : x / 281474976710656 = 0 := by omega
    simp [hx, this, Pack.sp]
    omega
  · have : ¬ x / 281474976710656 = 0 := by omega
    simp [hx, this]

/-- whose it is -/
def dec (l : List Nat) : Option (Nat × Nat × Nat) :=
  let x : Nat := l[1]?.getD 0
  let n : Nat := x % 65536
  let m : Nat := x / 65536 % 65536
  let s : Nat := x / 4294967296
  if l.length = 8 ∧ x < 281474976710656 ∧ Geo.may n m s = true ∧ l = sb n m s then some (n, m, s) else none

theorem may_lt {n m s : Nat} (h : Geo.may n m s = true) : n < 65536 ∧ m < 65536 ∧ s < 65536 := by
  obtain ⟨⟨h1, h2, h3⟩, _⟩ := Geo.may_num h
  have := h3.bounds
  omega

theorem dec_sb {n m s : Nat} (h : Geo.may n m s = true) : dec (sb n m s) = some (n, m, s) := by
  obtain ⟨h1, h2, h3⟩ := may_lt h
  have h4 := nums_lt h1 h2 h3
  have e1 : nums n m s % 65536 = n := by unfold nums; omega
  have e2 : nums n m s / 65536 % 65536 = m := by unfold nums; omega
  have e3 : nums n m s / 4294967296 = s := by unfold nums; omega
  have e : (sb n m s)[1]?.getD 0 = nums n m s := rfl
  unfold dec
  simp only [e, e1, e2, e3]
  exact if_pos ⟨rfl, h4, h, trivial⟩

theorem dec_some {l : List Nat} {n m s : Nat} (h : dec l = some (n, m, s)) : Geo.may n m s = true ∧ l = sb n m s := by
  unfold dec at h
  simp only at h
  split at h
  · rename_i hc
    injection h with h
    injection h with h1 h2
    injection h2 with h2 h3
    subst h1 h2 h3
    exact hc.2.2
  · cases h

/-- what is no superblock of one that may be -/
theorem dec_none {l : List Nat} (h : ∀ n m s : Nat, Geo.may n m s = true → l ≠ sb n m s) : dec l = none := by
  cases e : dec l with
  | none => rfl
  | some q =>
    obtain ⟨n, m, s⟩ := q
    have := dec_some e
    exact absurd this.2 (h n m s this.1)
end Sup
end Go.Proofs.YtleehhpodgbomaaGreatDoor
