/- SlotHas, walked. -/
import Derived.Test.YtjhmmllifecfkaaSloLives
namespace Go.Proofs.Ytjhmmllifecfkaa
open Go.RowKit Go.MapKept
namespace Slo
open Lin

/-- block b is one of the slot's -/
def has (s c n b : Int) : Bool := may s c n && (decide (s ≤ b) && decide (b < s + c))

set_option maxHeartbeats 2000000 in
set_option maxRecDepth 100000 in
theorem has_any (w : World) (s c n b : Int) :
    Calls Try.prog 15 #[.agg #[.int .i64 s, .int .i64 c, .int .i64 n], .int .i64 b] w fun r w' => r = .returned (.bool (has s c n b)) ∧ Below w.heap.size w w' := by
  have HB := Lib.hid ((Below.refl w.heap.size w).alloc (Nat.le_refl _) (.cells #[.int .i64 s, .int .i64 c, .int .i64 n] 23))
  have HX := Lib.hid (boxed w s c n 23)
  have HMY := Lib.hid (fun w => may_any w s c n)
  have HEN := Lib.hid (fun w => end_any w s c n)
  cases hm : may s c n with
  | false =>
    have HE := Lib.hid (show has s c n b = false by unfold has; rw [hm]; rfl)
    have HF := Lib.hid hm
    clear hm
    go_enter Try.func15, Try.ntmps15
    go_wp2_with fail
    refine (HMY.out _).mono ?_
    rintro e w1 ⟨rfl, hb⟩
    rw [HF.out]
    have HB1 := Lib.hid (HB.out.trans (hb.mono HB.out.size))
    clear hb
    go_wp2
    go_ret
    exact ⟨by rw [HE.out]; rfl, HB1.out⟩
  | true =>
    by_cases hsb : s ≤ b
    · have HE := Lib.hid (show has s c n b = decide (b < s + c) by unfold has; rw [hm, decide_eq_true hsb]; rfl)
      have HF := Lib.hid hm
      have HFI := Lib.hid (show fin s c n = s + c by unfold fin; rw [hm]; rfl)
      clear hm
      go_enter Try.func15, Try.ntmps15
      go_wp2_with fail
      refine (HMY.out _).mono ?_
      rintro e w1 ⟨rfl, hb⟩
      rw [HF.out]
      have HB1 := Lib.hid (HB.out.trans (hb.mono HB.out.size))
      have HX1 := Lib.hid (HX.out.keep hb)
      have hc0 := HX1.out.c0
      have hc1 := HX1.out.c1
      have hc2 := HX1.out.c2
      clear hb HB HX
      go_wp2_with fail
      refine (HEN.out _).mono ?_
      rintro e w2 ⟨rfl, hb⟩
      rw [HFI.out]
      have HB2 := Lib.hid (HB1.out.trans (hb.mono HB1.out.size))
      clear hb HB1 HX1 hc0 hc1 hc2
      go_wp2
      go_ret
      exact ⟨by rw [HE.out]; rfl, HB2.out⟩
    · have HE := Lib.hid (show has s c n b = false by unfold has; rw [hm, decide_eq_false hsb]; rfl)
      have HF := Lib.hid hm
      clear hm
      go_enter Try.func15, Try.ntmps15
      go_wp2_with fail
      refine (HMY.out _).mono ?_
      rintro e w1 ⟨rfl, hb⟩
      rw [HF.out]
      have HB1 := Lib.hid (HB.out.trans (hb.mono HB.out.size))
      have HX1 := Lib.hid (HX.out.keep hb)
      have hc0 := HX1.out.c0
      clear hb HB HX
      go_wp2
      go_ret
      exact ⟨by rw [HE.out]; rfl, HB1.out⟩

set_option maxHeartbeats 2000000 in
set_option maxRecDepth 100000 in
theorem hasLaw_any (w : World) (s c n b : Int) (hb1 : -9223372036854775808 ≤ b) (hb2 : b ≤ 9223372036854775807) :
    Calls Try.prog 6 #[.agg #[.int .i64 s, .int .i64 c, .int .i64 n], .int .i64 b] w fun r w' => r = .returned (.bool true) ∧ Below w.heap.size w w' := by
  have HB := Lib.hid ((Below.refl w.heap.size w).alloc (Nat.le_refl _) (.cells #[.int .i64 s, .int .i64 c, .int .i64 n] 23))
  have HX := Lib.hid (boxed w s c n 23)
  have HL := Lib.hid lives_any
  have HR := Lib.hid (fun w => refMay_any w s c n)
  have HH := Lib.hid (fun w => has_any w s c n b)
  cases hm : may s c n with
  | false =>
    have HE := Lib.hid (show has s c n b = false by unfold has; rw [hm]; rfl)
    have HF := Lib.hid hm
    clear hm
    go_enter Try.func6, Try.ntmps6
    go_wp2_with fail
    refine (HL.out _).mono ?_
    rintro e w0 ⟨rfl, hb⟩
    have HB0 := Lib.hid (HB.out.trans (hb.mono HB.out.size))
    have HX0 := Lib.hid (HX.out.keep hb)
    have hc0 := HX0.out.c0
    have hc1 := HX0.out.c1
    have hc2 := HX0.out.c2
    clear hb HB HX
    go_wp2_with fail
    refine (HR.out _).mono ?_
    rintro e w1 ⟨rfl, hb⟩
    rw [HF.out]
    have HB1 := Lib.hid (HB0.out.trans (hb.mono HB0.out.size))
    have HX1 := Lib.hid (HX0.out.keep hb)
    clear hb HB0 HX0 hc0 hc1 hc2
    have hc0 := HX1.out.c0
    have hc1 := HX1.out.c1
    have hc2 := HX1.out.c2
    go_wp2_with fail
    refine (HH.out _).mono ?_
    rintro e w2 ⟨rfl, hb⟩
    rw [HE.out]
    have HB2 := Lib.hid (HB1.out.trans (hb.mono HB1.out.size))
    have HX2 := Lib.hid (HX1.out.keep hb)
    clear hb HB1 HX1 hc0 hc1 hc2
    have hc0 := HX2.out.c0
    have hc1 := HX2.out.c1
    have hc2 := HX2.out.c2
    go_wp2
    go_ret
    exact ⟨rfl, HB2.out⟩
  | true =>
    have hb0 := may_iff.1 hm
    unfold May at hb0
    by_cases hsb : s ≤ b
    · have HE := Lib.hid (show has s c n b = decide (b < s + c) by unfold has; rw [hm, decide_eq_true hsb]; rfl)
      have HF := Lib.hid hm
      have hs0 : 0 ≤ s := by omega
      have HQ := Lib.hid (show decide (b < s + c) = decide (b - s < c) by
        rw [Bool.eq_iff_iff]
        simp only [decide_eq_true_eq]
        omega)
      clear hm hb0
      go_enter Try.func6, Try.ntmps6
      go_wp2_with fail
      refine (HL.out _).mono ?_
      rintro e w0 ⟨rfl, hb⟩
      have HB0 := Lib.hid (HB.out.trans (hb.mono HB.out.size))
      have HX0 := Lib.hid (HX.out.keep hb)
      have hc0 := HX0.out.c0
      have hc1 := HX0.out.c1
      have hc2 := HX0.out.c2
      clear hb HB HX
      go_wp2_with fail
      refine (HR.out _).mono ?_
      rintro e w1 ⟨rfl, hb⟩
      rw [HF.out]
      have HB1 := Lib.hid (HB0.out.trans (hb.mono HB0.out.size))
      have HX1 := Lib.hid (HX0.out.keep hb)
      clear hb HB0 HX0 hc0 hc1 hc2
      have hc0 := HX1.out.c0
      have hc1 := HX1.out.c1
      have hc2 := HX1.out.c2
      go_wp2_with fail
      refine (HH.out _).mono ?_
      rintro e w2 ⟨rfl, hb⟩
      rw [HE.out]
      have HB2 := Lib.hid (HB1.out.trans (hb.mono HB1.out.size))
      have HX2 := Lib.hid (HX1.out.keep hb)
      clear hb HB1 HX1 hc0 hc1 hc2
      have hc0 := HX2.out.c0
      have hc1 := HX2.out.c1
      have hc2 := HX2.out.c2
      go_wp2
      go_ret
      exact ⟨by rw [HQ.out]; simp, HB2.out⟩
    · have HE := Lib.hid (show has s c n b = false by unfold has; rw [hm, decide_eq_false hsb]; rfl)
      have HF := Lib.hid hm
      clear hm hb0
      go_enter Try.func6, Try.ntmps6
      go_wp2_with fail
      refine (HL.out _).mono ?_
      rintro e w0 ⟨rfl, hb⟩
      have HB0 := Lib.hid (HB.out.trans (hb.mono HB.out.size))
      have HX0 := Lib.hid (HX.out.keep hb)
      have hc0 := HX0.out.c0
      have hc1 := HX0.out.c1
      have hc2 := HX0.out.c2
      clear hb HB HX
      go_wp2_with fail
      refine (HR.out _).mono ?_
      rintro e w1 ⟨rfl, hb⟩
      rw [HF.out]
      have HB1 := Lib.hid (HB0.out.trans (hb.mono HB0.out.size))
      have HX1 := Lib.hid (HX0.out.keep hb)
      clear hb HB0 HX0 hc0 hc1 hc2
      have hc0 := HX1.out.c0
      have hc1 := HX1.out.c1
      have hc2 := HX1.out.c2
      go_wp2_with fail
      refine (HH.out _).mono ?_
      rintro e w2 ⟨rfl, hb⟩
      rw [HE.out]
      have HB2 := Lib.hid (HB1.out.trans (hb.mono HB1.out.size))
      have HX2 := Lib.hid (HX1.out.keep hb)
      clear hb HB1 HX1 hc0 hc1 hc2
      have hc0 := HX2.out.c0
      have hc1 := HX2.out.c1
      have hc2 := HX2.out.c2
      go_wp2
      go_ret
      exact ⟨rfl, HB2.out⟩
end Slo
end Go.Proofs.Ytjhmmllifecfkaa
