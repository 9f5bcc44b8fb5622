/- within, May, End, Has, toField, toNext, field, walked. -/
import Derived.Test.YtjhmmllifecfkaaSloMath
namespace Go.Proofs.Ytjhmmllifecfkaa
open Go.RowKit Go.MapKept
namespace Slo
open Lin

theorem within_any (w : World) (n a b : Int) :
    Calls Try.prog 25 #[.int .i64 n, .int .i64 a, .int .i64 b] w fun e w' => e = .returned (.bool (decide (a ≤ n ∧ n ≤ b))) ∧ w = w' := by
  go_enter Try.func25, Try.ntmps25
  go_wp2
  · rename_i h
    go_ret
    exact ⟨by simp [h], rfl⟩
  · rename_i h
    go_ret
    refine ⟨?_, rfl⟩
    have : ¬ a ≤ n := by omega
    simp [this]

theorem toField_any (w : World) (n : Int) (q : Nat) (hn : n = nx q) (hq : q < 65536) :
    Calls Try.prog 19 #[.int .i64 n] w fun e w' => e = .returned (.int .i64 (q : Int)) ∧ w = w' := by
  by_cases h : q = 65535
  · subst h
    rw [nx_none] at hn
    subst hn
    go_enter Try.func19, Try.ntmps19
    go_wp2
    go_ret
    exact ⟨rfl, rfl⟩
  · rw [nx_some h] at hn
    subst hn
    have h1 : ¬ (q : Int) = -1 := by omega
    go_enter Try.func19, Try.ntmps19
    go_wp2
    go_ret
    exact ⟨rfl, rfl⟩

theorem toNext_any (w : World) (q : Nat) :
    Calls Try.prog 27 #[.int .i64 (q : Int)] w fun e w' => e = .returned (.int .i64 (nx q)) ∧ w = w' := by
  by_cases h : q = 65535
  · subst h
    rw [nx_none]
    go_enter Try.func27, Try.ntmps27
    go_wp2
    go_ret
    exact ⟨rfl, rfl⟩
  · rw [nx_some h]
    have h1 : ¬ (q : Int) = 65535 := by omega
    go_enter Try.func27, Try.ntmps27
    go_wp2
    go_ret
    exact ⟨rfl, rfl⟩

theorem field_any (w : World) (n : Nat) (h : n < 65536) :
    Calls Try.prog 18 #[.int .i64 (n : Int)] w fun r w' => r = .returned (.agg #[.int .i64 16, .int .u64 (n : Int)]) ∧ Below w.heap.size w w' := by
  go_enter Try.func18, Try.ntmps18
  go_wp2
  refine bodyPost_ret (v := .agg #[.int .i64 16, .int .u64 (n : Int)]) ?_ rfl ⟨rfl, ?_⟩
  · simp [results, Try.results18, go_sem]
  · first
    | exact (Below.refl _ _).alloc (Nat.le_refl _) _
    | exact (((Below.refl _ _).alloc (Nat.le_refl _) _).setCell (by simp) _).setCell (by simp) _

set_option maxHeartbeats 1000000 in
theorem may_any (w : World) (s c n : Int) :
    Calls Try.prog 10 #[.agg #[.int .i64 s, .int .i64 c, .int .i64 n]] w fun r w' => r = .returned (.bool (may s c n)) ∧ Below w.heap.size w w' := by
  have HB := Lib.hid ((Below.refl w.heap.size w).alloc (Nat.le_refl _) (.cells #[.int .i64 s, .int .i64 c, .int .i64 n] 23))
  have HS := Lib.hid (fun w => within_any w s 0 65533)
  have HN := Lib.hid (fun w => within_any w n (-1) 65533)
  by_cases h1 : 0 ≤ s ∧ s ≤ 65533
  · have h11 := h1.1
    have h12 := h1.2
    have HC := Lib.hid (fun w => within_any w c 1 (65534 - s))
    by_cases h2 : 1 ≤ c ∧ c ≤ 65534 - s
    · have HE := Lib.hid (show may s c n = decide (-1 ≤ n ∧ n ≤ 65533) by
        rw [Bool.eq_iff_iff, decide_eq_true_iff]
        exact ⟨fun h => (may_iff.1 h).2.2, fun h => may_iff.2 ⟨h1, h2, h⟩⟩)
      have H1 := Lib.hid (decide_eq_true h1)
      have H2 := Lib.hid (decide_eq_true h2)
      clear h1 h2
      go_enter Try.func10, Try.ntmps10
      go_wp2_with fail
      refine (HS.out _).mono ?_
      rintro e w' ⟨rfl, rfl⟩
      rw [H1.out]
      go_wp2_with fail
      refine (HC.out _).mono ?_
      rintro e w' ⟨rfl, rfl⟩
      rw [H2.out]
      go_wp2_with fail
      refine (HN.out _).mono ?_
      rintro e w' ⟨rfl, rfl⟩
      rw [← HE.out]
      go_wp2
      go_ret
      exact ⟨rfl, HB.out⟩
    · have HE := Lib.hid (show may s c n = false by unfold may May; exact decide_eq_false (fun h => h2 h.2.1))
      have H1 := Lib.hid (decide_eq_true h1)
      have H2 := Lib.hid (decide_eq_false h2)
      clear h1 h2
      go_enter Try.func10, Try.ntmps10
      go_wp2_with fail
      refine (HS.out _).mono ?_
      rintro e w' ⟨rfl, rfl⟩
      rw [H1.out]
      go_wp2_with fail
      refine (HC.out _).mono ?_
      rintro e w' ⟨rfl, rfl⟩
      rw [H2.out]
      go_wp2
      go_ret
      exact ⟨by rw [HE.out]; rfl, HB.out⟩
  · have HE := Lib.hid (show may s c n = false by unfold may May; exact decide_eq_false (fun h => h1 h.1))
    have H1 := Lib.hid (decide_eq_false h1)
    clear h1
    go_enter Try.func10, Try.ntmps10
    go_wp2_with fail
    refine (HS.out _).mono ?_
    rintro e w' ⟨rfl, rfl⟩
    rw [H1.out]
    go_wp2
    go_ret
    exact ⟨by rw [HE.out]; rfl, HB.out⟩

/-- one behind the last block -/
def fin (s c n : Int) : Int := if may s c n = true then s + c else 0

set_option maxHeartbeats 1000000 in
theorem end_any (w : World) (s c n : Int) :
    Calls Try.prog 11 #[.agg #[.int .i64 s, .int .i64 c, .int .i64 n]] w fun r w' => r = .returned (.int .i64 (fin s c n)) ∧ Below w.heap.size w w' := by
  have HB := Lib.hid ((Below.refl w.heap.size w).alloc (Nat.le_refl _) (.cells #[.int .i64 s, .int .i64 c, .int .i64 n] 23))
  have HX := Lib.hid (boxed w s c n 23)
  have HM := Lib.hid (fun w => may_any w s c n)
  cases hm : may s c n with
  | false =>
    have HE := Lib.hid (show fin s c n = 0 by unfold fin; rw [hm]; rfl)
    have HF := Lib.hid hm
    clear hm
    go_enter Try.func11, Try.ntmps11
    go_wp2_with fail
    refine (HM.out _).mono ?_
    rintro e w' ⟨rfl, hb⟩
    rw [HF.out]
    have HB1 := Lib.hid (HB.out.trans (hb.mono HB.out.size))
    clear hb
    go_wp2
    go_ret
    exact ⟨by rw [HE.out]; rfl, HB1.out⟩
  | true =>
    have HE := Lib.hid (show fin s c n = s + c by unfold fin; rw [hm]; rfl)
    have HF := Lib.hid hm
    have hb0 := may_iff.1 hm
    unfold May at hb0
    have hs0 : 0 ≤ s := by omega
    have hs1 : s ≤ 65533 := by omega
    have hc0 : 1 ≤ c := by omega
    have hc1 : c ≤ 65534 := by omega
    clear hm hb0
    go_enter Try.func11, Try.ntmps11
    go_wp2_with fail
    refine (HM.out _).mono ?_
    rintro e w' ⟨rfl, hb⟩
    rw [HF.out]
    have HB1 := Lib.hid (HB.out.trans (hb.mono HB.out.size))
    have HX1 := Lib.hid (HX.out.keep hb)
    have hk0 := HX1.out.c0
    have hk1 := HX1.out.c1
    clear hb
    go_wp2
    go_ret
    exact ⟨by rw [HE.out]; rfl, HB1.out⟩
end Slo
end Go.Proofs.Ytjhmmllifecfkaa
