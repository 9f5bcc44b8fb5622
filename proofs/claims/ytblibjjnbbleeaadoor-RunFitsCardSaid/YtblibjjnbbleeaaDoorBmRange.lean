/- One block put or dropped; blocks one behind the other. -/
import Derived.Test.YtblibjjnbbleeaaDoorBmNext
namespace Go.Proofs.YtblibjjnbbleeaaDoor
open Go.RowKit Go.MapKept
namespace Bm
open Pack (Wds Nts)

section
variable {w : World} {p q K C n : Nat} {f : Nat → Bool}
theorem nts_new (w : World) (x : Int) (h1 : -9223372036854775808 ≤ x) (h2 : x ≤ 9223372036854775807) (hq : q < w.heap.size) : ∀ w', Chg q (w.alloc (.cells #[.int .i64 x] 3)) w' → Nts w' (some ⟨w.heap.size, 0, none⟩) [x] := fun w' hc =>
  ⟨fun y hy => by
    obtain rfl : y = x := by simpa using hy
    exact ⟨h1, h2⟩, by simp, fun j hj => by
    obtain rfl : j = 0 := by simpa using hj
    refine ⟨w.heap.size, 0, rfl, Nat.lt_of_lt_of_le (by simp) hc.size, ?_⟩
    rw [hc.cell (p := ⟨w.heap.size, 0 + 0, none⟩) (by simp) (by simp; omega)]
    exact Pack.alloc_cell _ _ _ _⟩
theorem tn_one (n : Nat) (is : Bool) (f : Nat → Bool) (x : Int) : tn n is f [x] = (trn n is f x, if trd n is f x then 1 else 0) := by
  simp [tn, tnp]
theorem put1_any (h : Mp w p q K C n f) (x : Int) (h1 : -9223372036854775808 ≤ x) (h2 : x ≤ 9223372036854775807) (c : Nat) :
    Calls Tryd.prog 25 #[.pointer (some ⟨p, 0, none⟩), .slice (some ⟨w.heap.size, 0, none⟩) 1 c] (w.alloc (.cells #[.int .i64 x] 3)) fun e w' => e = .returned (.int .i64 ((if trd n true f x then 1 else 0 : Nat) : Int)) ∧ Mp w' p q K C n (trn n true f x) ∧ Chg q w w' := by
  have hm := h.keep ((Below.refl _ _).alloc (Nat.le_refl _) (.cells #[.int .i64 x] 3))
  have := put_any hm (some ⟨w.heap.size, 0, none⟩) c [x] (nts_new w x h1 h2 h.row.lt)
  rw [tn_one] at this
  exact this.mono fun e w' ⟨he, hM, hC⟩ => ⟨he, hM, ((Chg.refl q w).alloc _).trans hC⟩
/-- it has them from s on, ahead of e, too -/
def fill (f : Nat → Bool) (s e b : Nat) : Bool := f b || decide (s ≤ b ∧ b < e)
theorem trn_in {b : Nat} (hb : b < n) (is : Bool) : trn n is f (b : Int) = upd f b is := by
  funext x
  unfold trn
  split
  · rw [Int.toNat_natCast]
  · rename_i h
    unfold trd at h
    rw [Int.toNat_natCast, decide_eq_true (by omega : (0 : Int) ≤ (b : Int) ∧ (b : Int) < (n : Int))] at h
    have h' : f b = is := by simpa using h
    unfold upd
    split
    · rename_i e; rw [e, h']
    · rfl
theorem fill_step (s b : Nat) (hs : s ≤ b) : upd (fill f s b) b true = fill f s (b + 1) := by
  funext x
  unfold upd fill
  by_cases hx : x = b
  · subst hx
    rw [if_pos rfl, decide_eq_true (by omega)]
    simp
  · rw [if_neg hx]
    have : decide (s ≤ x ∧ x < b) = decide (s ≤ x ∧ x < b + 1) := by rw [decide_eq_decide]; omega
    rw [this]
theorem fill_none (s : Nat) : fill f s s = f := by
  funext x
  unfold fill
  rw [decide_eq_false (by omega)]
  simp
/-- whether they may be had -/
def rgb (n : Nat) (f : Nat → Bool) (s c : Int) : Bool := decide (0 ≤ s ∧ s < (n : Int) ∧ 1 ≤ c ∧ c ≤ (n : Int) - s) && decide (next f true n s.toNat = -1 ∨ s + c ≤ next f true n s.toNat)
theorem rgb_iff {s c : Int} : rgb n f s c = true ↔ (0 ≤ s ∧ 1 ≤ c ∧ s + c ≤ (n : Int)) ∧ ∀ b : Nat, s ≤ (b : Int) → (b : Int) < s + c → f b = false := by
  unfold rgb
  rw [Bool.and_eq_true, decide_eq_true_eq, decide_eq_true_eq]
  constructor
  · rintro ⟨h, h2⟩
    refine ⟨by omega, fun b h3 h4 => ?_⟩
    rcases next_is f true n s.toNat with ⟨e, g⟩ | ⟨d, e, _, _, _, g⟩
    · have := g b (by omega) (by omega)
      simpa using this
    · have := g b (by omega) (by omega)
      simpa using this
  · rintro ⟨h, g⟩
    refine ⟨by omega, ?_⟩
    rcases next_is f true n s.toNat with ⟨e, _⟩ | ⟨d, e, h1, h2, h3, _⟩
    · exact .inl e
    · refine .inr ?_
      rcases Int.lt_or_le (next f true n s.toNat) (s + c) with hl | hl
      · have := g d (by omega) (by omega)
        rw [h3] at this
        cases this
      · exact hl
/-- what is there behind it -/
def rgf (n : Nat) (f : Nat → Bool) (s c : Int) : Nat → Bool := if rgb n f s c then fill f s.toNat (s + c).toNat else f

set_option maxRecDepth 100000 in
set_option maxHeartbeats 2000000 in
theorem range_any (h : Mp w p q K C n f) (hT : Tab w) (s c : Int) (hs1 : -9223372036854775808 ≤ s) (hs2 : s ≤ 9223372036854775807) (hc1 : -9223372036854775808 ≤ c) (hc2 : c ≤ 9223372036854775807) :
    Calls Tryd.prog 13 #[.pointer (some ⟨p, 0, none⟩), .int .i64 s, .int .i64 c] w fun e w' => e = .returned (.bool (rgb n f s c)) ∧ Mp w' p q K C n (rgf n f s c) ∧ Chg q w w' := by
  have hmx := h.max
  have hc0 := h.c0
  have H := Lib.hid h
  clear h
  unfold rgf
  by_cases hin : s < 0 ∨ (n : Int) ≤ s
  · have hr : rgb n f s c = false := by unfold rgb; rw [decide_eq_false (by omega)]; rfl
    rw [hr]
    have HI := Lib.hid (isBlock_no H.out s hin)
    clear hin hr hT
    go_enter Tryd.func13, Tryd.ntmps13
    go_wp2_with fail
    refine HI.out.mono ?_
    rintro e w' ⟨rfl, rfl⟩
    go_wp2
    go_ret
    exact ⟨rfl, H.out, Chg.refl _ _⟩
  · obtain ⟨a, rfl⟩ := Int.eq_ofNat_of_zero_le (show 0 ≤ s by omega)
    have ha : a < n := by omega
    have HI := Lib.hid (isBlock_yes H.out a ha)
    clear hin
    by_cases hcc : 1 ≤ c ∧ c ≤ (n : Int) - (a : Int)
    · obtain ⟨k, rfl⟩ := Int.eq_ofNat_of_zero_le (show 0 ≤ c by omega)
      have hk1 : ¬ (k : Int) < 1 := by omega
      have hk2 : ¬ (n : Int) - (a : Int) < (k : Int) := by omega
      have hx := next_lt f true n a
      have HN := Lib.hid (next_any H.out hT (a : Int) true (by omega))
      rw [Int.toNat_natCast] at HN
      have hrg : rgb n f (a : Int) (k : Int) = decide (next f true n a = -1 ∨ (a : Int) + (k : Int) ≤ next f true n a) := by
        unfold rgb; rw [decide_eq_true (by omega), Int.toNat_natCast]; rfl
      rw [hrg]
      clear hrg hT
      generalize next f true n a = r at *
      have hsum : (a : Int) + (k : Int) ≤ 65534 := by omega
      by_cases hr : r = -1 ∨ (a : Int) + (k : Int) ≤ r
      · rw [decide_eq_true hr, if_pos rfl]
        have HE := Lib.hid (show ((a : Int) + (k : Int)).toNat = a + k by omega)
        go_enter Tryd.func13, Tryd.ntmps13
        go_wp2_with fail
        refine HI.out.mono ?_
        rintro e w' ⟨rfl, rfl⟩
        go_wp2_with fail
        refine HN.out.mono ?_
        rintro e w' ⟨rfl, rfl⟩
        by_cases hm1 : r = -1
        · subst hm1
          clear hr hx
          go_wp2
          go_loopw [9] (fun i wr => ∃ b : Nat, a ≤ b ∧ b ≤ a + k ∧ i = .int .i64 (b : Int) ∧ Mp wr p q K C n (fill f a b) ∧ Chg q w wr) (fun i _ => a + k - (intOf i).toNat)
          case atStart => exact ⟨a, Nat.le_refl _, by omega, rfl, by rw [fill_none]; exact H.out, Chg.refl _ _⟩
          case round =>
            obtain ⟨b, hb1, hb2, rfl, hM, hC⟩ := hrel
            by_cases hlt : b < a + k
            · have hb0 : (b : Int) < (a : Int) + (k : Int) := by omega
              have hp := put1_any hM (b : Int) (by omega) (by omega) 1
              rw [trn_in (by omega : b < n), fill_step a b hb1] at hp
              have HP := Lib.hid hp
              have HC := Lib.hid hC
              clear hM hC hp
              go_wp2_with fail
              refine HP.out.mono ?_
              rintro e w' ⟨rfl, hM, hC⟩
              have HM2 := Lib.hid hM
              have HC2 := Lib.hid (HC.out.trans hC)
              clear hM hC
              go_wp2
              refine ⟨⟨b + 1, by omega, by omega, by go_num, HM2.out, HC2.out⟩, by simp [intOf]; omega⟩
            · obtain rfl : b = a + k := by omega
              have HM := Lib.hid hM
              have HC := Lib.hid hC
              clear hM hC
              have hb0 : ¬ ((a + k : Nat) : Int) < (a : Int) + (k : Int) := by omega
              go_wp2
              go_ret
              exact ⟨rfl, by rw [HE.out]; exact HM.out, HC.out⟩
        · have hm2 : ¬ r < (a : Int) + (k : Int) := by omega
          clear hr hx
          go_wp2
          go_loopw [9] (fun i wr => ∃ b : Nat, a ≤ b ∧ b ≤ a + k ∧ i = .int .i64 (b : Int) ∧ Mp wr p q K C n (fill f a b) ∧ Chg q w wr) (fun i _ => a + k - (intOf i).toNat)
          case atStart => exact ⟨a, Nat.le_refl _, by omega, rfl, by rw [fill_none]; exact H.out, Chg.refl _ _⟩
          case round =>
            obtain ⟨b, hb1, hb2, rfl, hM, hC⟩ := hrel
            by_cases hlt : b < a + k
            · have hb0 : (b : Int) < (a : Int) + (k : Int) := by omega
              have hp := put1_any hM (b : Int) (by omega) (by omega) 1
              rw [trn_in (by omega : b < n), fill_step a b hb1] at hp
              have HP := Lib.hid hp
              have HC := Lib.hid hC
              clear hM hC hp
              go_wp2_with fail
              refine HP.out.mono ?_
              rintro e w' ⟨rfl, hM, hC⟩
              have HM2 := Lib.hid hM
              have HC2 := Lib.hid (HC.out.trans hC)
              clear hM hC
              go_wp2
              refine ⟨⟨b + 1, by omega, by omega, by go_num, HM2.out, HC2.out⟩, by simp [intOf]; omega⟩
            · obtain rfl : b = a + k := by omega
              have HM := Lib.hid hM
              have HC := Lib.hid hC
              clear hM hC
              have hb0 : ¬ ((a + k : Nat) : Int) < (a : Int) + (k : Int) := by omega
              go_wp2
              go_ret
              exact ⟨rfl, by rw [HE.out]; exact HM.out, HC.out⟩
      · rw [decide_eq_false hr, if_neg (by simp)]
        have hm1 : ¬ r = -1 := by omega
        have hm2 : r < (a : Int) + (k : Int) := by omega
        clear hr hx
        go_enter Tryd.func13, Tryd.ntmps13
        go_wp2_with fail
        refine HI.out.mono ?_
        rintro e w' ⟨rfl, rfl⟩
        go_wp2_with fail
        refine HN.out.mono ?_
        rintro e w' ⟨rfl, rfl⟩
        go_wp2
        go_ret
        exact ⟨rfl, H.out, Chg.refl _ _⟩
    · have hr : rgb n f (a : Int) c = false := by unfold rgb; rw [decide_eq_false (by omega)]; rfl
      rw [hr]
      by_cases hk1 : c < 1
      · clear hr hT hcc
        go_enter Tryd.func13, Tryd.ntmps13
        go_wp2_with fail
        refine HI.out.mono ?_
        rintro e w' ⟨rfl, rfl⟩
        go_wp2
        go_ret
        exact ⟨rfl, H.out, Chg.refl _ _⟩
      · have hk2 : (n : Int) - (a : Int) < c := by omega
        clear hr hT hcc
        go_enter Tryd.func13, Tryd.ntmps13
        go_wp2_with fail
        refine HI.out.mono ?_
        rintro e w' ⟨rfl, rfl⟩
        go_wp2
        go_ret
        exact ⟨rfl, H.out, Chg.refl _ _⟩
end
end Bm
end Go.Proofs.YtblibjjnbbleeaaDoor
