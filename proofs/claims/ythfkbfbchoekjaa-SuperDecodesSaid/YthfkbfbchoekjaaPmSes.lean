/- A device that the call itself made, through any of its calls: each call's answer and what it leaves, of whatever numbers. -/
import Derived.Test.YthfkbfbchoekjaaPmMay
namespace Go.Proofs.Ythfkbfbchoekjaa
open Go.RowKit Go.MapKept
namespace Pm

/-- the device at block a is A, all its blocks lie from B on, and below B the world is as w0 was -/
def Ses (B : Nat) (w0 w : World) (a : Nat) (A : Abs) : Prop :=
  ∃ D, Rep w a D ∧ D.abs = A ∧ A.Ok ∧ Below B w0 w ∧ (∀ k, Foot a D k → B ≤ k) ∧ B ≤ w.heap.size

def Abs.fresh (n : Nat) : Abs := ⟨0, 0, false, 0, List.replicate n 0, [], []⟩
def Abs.has (A : Abs) (i : Int) : Bool := decide (0 ≤ i) && decide (i < (A.words.length : Int))
def Abs.canStore (A : Abs) (i : Int) : Bool := A.has i && !A.down
def Abs.storeAt (A : Abs) (i x : Int) : Abs := if A.canStore i then A.store i.toNat x else A
def Abs.canFlush (A : Abs) (i : Int) : Bool := decide (0 ≤ i) && decide (i < ((A.words.length + 7) / 8 : Nat)) && !A.down
def Abs.flushAt (A : Abs) (i : Int) : Abs := if A.canFlush i then A.flush i.toNat else A
def Abs.fenceAt (A : Abs) : Abs := if A.down then A else A.fence

theorem fresh_ok (n : Nat) (hn : n ≤ 4194304) : (Abs.fresh n).Ok := by
  refine ⟨by simp [Abs.fresh], by simp [Abs.fresh], by simp [Abs.fresh], by simp [Abs.fresh], by simp [Abs.fresh], ?_, Nat.le_refl _, by simp [Abs.fresh], by simp [Abs.fresh]⟩
  simpa [Abs.fresh] using hn

section
variable {B a : Nat} {w0 w w' : World} {A : Abs}

theorem Ses.ok (h : Ses B w0 w a A) : A.Ok := by
  obtain ⟨D, _, _, h, _⟩ := h; exact h
theorem Ses.below (h : Ses B w0 w a A) : Below B w0 w := by
  obtain ⟨D, _, _, _, h, _⟩ := h; exact h
theorem Ses.size (h : Ses B w0 w a A) : B ≤ w.heap.size := by
  obtain ⟨D, _, _, _, _, _, h⟩ := h; exact h

/-- one call's step -/
theorem ses_step {D D' : Dev} {A' : Abs} (hb : Below B w0 w) (hf : ∀ k, Foot a D k → B ≤ k) (hs : B ≤ w.heap.size) (hr : Res w a D w' D') (ha : D'.abs = A') (hok : A'.Ok) : Ses B w0 w' a A' := by
  refine ⟨D', hr.rep, ha, hok, hb.trans (hr.off.below hs hf), fun k hk => ?_, Nat.le_trans hs hr.off.size⟩
  rcases hr.foot k hk with h | h
  · exact hf k h
  · omega

theorem ses_new (n : Int) (m : Nat) (hm : (m : Int) = min (max n 0) 4194304) (w : World) : Calls Try.prog 14 #[.int .i64 n] w fun r w' =>
    r = .returned (.pointer (some ⟨w.heap.size + 2, 0, none⟩)) ∧ Ses w.heap.size w w' (w.heap.size + 2) (Abs.fresh m) := by
  refine (new_any w n m hm).mono fun r w' ⟨hr, hrep, hb, hz⟩ => ⟨hr, Dev.fresh m w.heap.size, hrep, rfl, fresh_ok m (by omega), hb, ?_, hb.size⟩
  rintro k (rfl | rfl | rfl | hk | hk)
  · omega
  · exact Nat.le_refl _
  · show w.heap.size ≤ w.heap.size + 1; omega
  · simp [Dev.fresh] at hk
  · simp [Dev.fresh, Dev.mkv, Value.ownBlock] at hk

theorem ses_len (h : Ses B w0 w a A) : Calls Try.prog 36 #[.pointer (some ⟨a, 0, none⟩)] w fun r w' => r = .returned (.int .i64 (A.words.length : Int)) ∧ w = w' := by
  obtain ⟨D, hrep, rfl, _⟩ := h
  exact len_any hrep

theorem ses_load (h : Ses B w0 w a A) (i : Int) : Calls Try.prog 34 #[.pointer (some ⟨a, 0, none⟩), .int .i64 i] w fun r w' => r = .returned (.int .u64 (if A.has i then A.words[i.toNat]?.getD 0 else 0)) ∧ w = w' := by
  obtain ⟨D, hrep, rfl, _⟩ := h
  cases hi : D.abs.has i with
  | false => exact load_no hrep i hi
  | true =>
    simp only [Abs.has, Bool.and_eq_true, decide_eq_true_eq] at hi
    obtain ⟨k, rfl⟩ := Int.eq_ofNat_of_zero_le hi.1
    have hk : k < D.words.length := by have := hi.2; simp only [Dev.abs] at this; omega
    have := load_yes hrep k hk
    simpa [Dev.abs, List.getElem?_eq_getElem hk] using this

theorem ses_store (h : Ses B w0 w a A) (i x : Int) (hs : A.steps + 1 < 100000000000) : Calls Try.prog 15 #[.pointer (some ⟨a, 0, none⟩), .int .i64 i, .int .u64 x] w fun r w' =>
    r = .returned (.bool (A.canStore i)) ∧ Ses B w0 w' a (A.storeAt i x) := by
  have hses := h
  obtain ⟨D, hrep, rfl, hok, hb, hf, hz⟩ := h
  unfold Abs.storeAt
  cases hi : D.abs.has i with
  | false =>
    have hc : D.abs.canStore i = false := by simp [Abs.canStore, hi]
    simp only [hc]
    refine (store_none hrep i x hi).mono fun r w' ⟨hr, hw⟩ => ⟨hr, ?_⟩
    subst hw; exact hses
  | true =>
    cases hd : D.abs.down with
    | true =>
      have hc : D.abs.canStore i = false := by simp [Abs.canStore, hd]
      simp only [hc]
      refine (store_down hrep i x hd).mono fun r w' ⟨hr, hw⟩ => ⟨hr, ?_⟩
      subst hw; exact hses
    | false =>
      have hc : D.abs.canStore i = true := by simp [Abs.canStore, hi, hd]
      simp only [hc, if_true]
      simp only [Abs.has, Bool.and_eq_true, decide_eq_true_eq] at hi
      obtain ⟨k, rfl⟩ := Int.eq_ofNat_of_zero_le hi.1
      rw [Int.toNat_natCast]
      refine (store_any hrep hok hd k x (by omega)).mono fun r w' ⟨hr, D', hres, ha⟩ => ⟨hr, ses_step hb hf hz hres ha (store_ok hok (by omega) x hs)⟩

theorem ses_flush (h : Ses B w0 w a A) (i : Int) (hs : A.steps + 1 < 100000000000) : Calls Try.prog 38 #[.pointer (some ⟨a, 0, none⟩), .int .i64 i] w fun r w' =>
    r = .returned (.bool (A.canFlush i)) ∧ Ses B w0 w' a (A.flushAt i) := by
  have hses := h
  obtain ⟨D, hrep, rfl, hok, hb, hf, hz⟩ := h
  have hsz : D.words.length ≤ 4194304 := hok.size
  unfold Abs.flushAt
  rcases Int.lt_or_le i 0 with hi | hi
  · have hc : D.abs.canFlush i = false := by simp [Abs.canFlush]; omega
    simp only [hc]
    refine (flush_neg i hi).mono fun r w' ⟨hr, hw⟩ => ⟨hr, ?_⟩
    subst hw; exact hses
  · obtain ⟨k, rfl⟩ := Int.eq_ofNat_of_zero_le hi
    rcases Nat.lt_or_ge k ((D.words.length + 7) / 8) with hk | hk
    · cases hd : D.abs.down with
      | true =>
        have hc : D.abs.canFlush (k : Int) = false := by simp [Abs.canFlush, hd]
        simp only [hc]
        refine (flush_down hrep k hk hsz hd).mono fun r w' ⟨hr, hw⟩ => ⟨hr, ?_⟩
        subst hw; exact hses
      | false =>
        have hc : D.abs.canFlush (k : Int) = true := by
          simp only [Abs.canFlush, hd, Bool.not_false, Bool.and_true, Bool.and_eq_true, decide_eq_true_eq]
          exact ⟨hi, by show (k : Int) < ((D.words.length + 7) / 8 : Nat); omega⟩
        simp only [hc, if_true]
        rw [Int.toNat_natCast]
        exact (flush_yes hrep hok hd k (by omega) hs).mono fun r w' ⟨hr, D', hres, ha⟩ => ⟨hr, ses_step hb hf hz hres ha (flush_ok hok k hs)⟩
    · have hc : D.abs.canFlush (k : Int) = false := by
        simp only [Abs.canFlush, Bool.and_eq_false_iff, decide_eq_false_iff_not]
        exact .inl (.inr (by show ¬ (k : Int) < ((D.words.length + 7) / 8 : Nat); omega))
      simp only [hc]
      refine (flush_far hrep k hk hsz).mono fun r w' ⟨hr, hw⟩ => ⟨hr, ?_⟩
      subst hw; exact hses

theorem ses_fence (h : Ses B w0 w a A) (hs : A.steps + 1 < 100000000000) : Calls Try.prog 39 #[.pointer (some ⟨a, 0, none⟩)] w fun r w' =>
    r = .returned (.bool (!A.down)) ∧ Ses B w0 w' a A.fenceAt := by
  have hses := h
  obtain ⟨D, hrep, rfl, hok, hb, hf, hz⟩ := h
  unfold Abs.fenceAt
  cases hd : D.abs.down with
  | true =>
    refine (fence_down hrep hd).mono fun r w' ⟨hr, hw⟩ => ⟨hr, ?_⟩
    subst hw; exact hses
  | false =>
    exact (fence_yes hrep hok hd hs).mono fun r w' ⟨hr, D', hres, ha⟩ => ⟨hr, ses_step hb hf hz hres ha (fence_ok hok hs)⟩

/-- a slice of words that the call made: its value, and its cells -/
def Words (B : Nat) (w : World) (v : Value) (l : List Int) : Prop := w.ownsRow B 39 1 v l.length (u64s l)

theorem ses_may (h : Ses B w0 w a A) (i : Int) : Calls Try.prog 37 #[.pointer (some ⟨a, 0, none⟩), .int .i64 i] w fun r w' =>
    ∃ v, r = .returned v ∧ Words w.heap.size w' v (if A.has i then A.may i.toNat else []) ∧ Ses B w0 w' a A ∧ Off (fun _ => False) w w' := by
  have hses := h
  obtain ⟨D, hrep, rfl, hok, hb, hf, hz⟩ := h
  cases hi : D.abs.has i with
  | false =>
    refine (may_none hrep i hi).mono fun r w' ⟨hr, hw⟩ => ⟨_, hr, ?_, ?_, ?_⟩
    · exact ⟨by simp [u64s], .inl ⟨rfl, rfl⟩⟩
    · subst hw; exact hses
    · subst hw; exact Off.refl _ _
  | true =>
    simp only [Abs.has, Bool.and_eq_true, decide_eq_true_eq] at hi
    obtain ⟨k, rfl⟩ := Int.eq_ofNat_of_zero_le hi.1
    have hk : k < D.words.length := by have := hi.2; simp only [Dev.abs] at this; omega
    refine (may_any hrep hok k hk).mono fun r w' hg => ?_
    have hrep2 := hg.rep hrep
    obtain ⟨v, hr, hw, ho⟩ := hg
    refine ⟨v, hr, by simpa [Words] using hw, ⟨D, hrep2, rfl, hok, hb.trans (ho.below hz (fun _ h => h.elim)), hf, Nat.le_trans hz ho.size⟩, ho⟩
end
end Pm
end Go.Proofs.Ythfkbfbchoekjaa
