/- None, within, placeMay, May, walked. -/
import Derived.Test.YtoigfhijlnajoaaInoMath
namespace Go.Proofs.Ytoigfhijlnajoaa
open Go.RowKit Go.MapKept
namespace Ino
open Lin

theorem none_any (w : World) : Calls Try.prog 15 #[] w fun r w' => r = .returned (.agg #[.int .i64 0, .int .i64 (-1), .int .i64 0]) ∧ Below w.heap.size w w' := by
  go_enter Try.func15, Try.ntmps15
  go_wp2
  refine bodyPost_ret (v := .agg #[.int .i64 0, .int .i64 (-1), .int .i64 0]) ?_ rfl ⟨rfl, ?_⟩
  · simp [results, Try.results15, go_sem]
  · first
    | exact (Below.refl _ _).alloc (Nat.le_refl _) _
    | exact ((((Below.refl _ _).alloc (Nat.le_refl _) _).setCell (by simp) _).setCell (by simp) _).setCell (by simp) _

theorem within_any (w : World) (n a b : Int) :
    Calls Try.prog 32 #[.int .i64 n, .int .i64 a, .int .i64 b] w fun e w' => e = .returned (.bool (decide (a ≤ n ∧ n ≤ b))) ∧ w = w' := by
  go_enter Try.func32, Try.ntmps32
  go_wp2
  · rename_i h
    go_ret
    exact ⟨by simp [h], rfl⟩
  · rename_i h
    go_ret
    refine ⟨?_, rfl⟩
    have : ¬ a ≤ n := by omega
    simp [this]

set_option maxHeartbeats 1000000 in
theorem place_any (w : World) (k h s : Int) :
    Calls Try.prog 24 #[.agg #[.int .i64 k, .int .i64 h, .int .i64 s]] w fun r w' => r = .returned (.bool (plc h s)) ∧ Below w.heap.size w w' := by
  have HB := Lib.hid ((Below.refl w.heap.size w).alloc (Nat.le_refl _) (.cells #[.int .i64 k, .int .i64 h, .int .i64 s] 24))
  have HH := Lib.hid (fun w => within_any w h (-1) 65533)
  have HS := Lib.hid (fun w => within_any w s 0 268435456)
  by_cases h1 : -1 ≤ h ∧ h ≤ 65533
  · by_cases h2 : 0 ≤ s ∧ s ≤ 268435456
    · have HE := Lib.hid (show plc h s = ((h == -1) == (s == 0)) by
        unfold plc
        rw [Bool.eq_iff_iff]
        simp only [decide_eq_true_eq, beq_iff_eq]
        rw [Bool.eq_iff_iff]
        simp only [beq_iff_eq]
        constructor
        · exact fun h => h.2.2
        · exact fun h => ⟨h1, h2, h⟩)
      have H1 := Lib.hid (decide_eq_true h1)
      have H2 := Lib.hid (decide_eq_true h2)
      clear h1 h2
      go_enter Try.func24, Try.ntmps24
      go_wp2_with fail
      refine (HH.out _).mono ?_
      rintro e w' ⟨rfl, rfl⟩
      rw [H1.out]
      go_wp2_with fail
      refine (HS.out _).mono ?_
      rintro e w' ⟨rfl, rfl⟩
      rw [H2.out]
      go_wp2
      go_ret
      exact ⟨by rw [HE.out]; rfl, HB.out⟩
    · have HE := Lib.hid (show plc h s = false by unfold plc; exact decide_eq_false (fun h => h2 h.2.1))
      have H1 := Lib.hid (decide_eq_true h1)
      have H2 := Lib.hid (decide_eq_false h2)
      clear h1 h2
      go_enter Try.func24, Try.ntmps24
      go_wp2_with fail
      refine (HH.out _).mono ?_
      rintro e w' ⟨rfl, rfl⟩
      rw [H1.out]
      go_wp2_with fail
      refine (HS.out _).mono ?_
      rintro e w' ⟨rfl, rfl⟩
      rw [H2.out]
      go_wp2
      go_ret
      exact ⟨by rw [HE.out]; rfl, HB.out⟩
  · have HE := Lib.hid (show plc h s = false by unfold plc; exact decide_eq_false (fun h => h1 h.1))
    have H1 := Lib.hid (decide_eq_false h1)
    clear h1
    go_enter Try.func24, Try.ntmps24
    go_wp2_with fail
    refine (HH.out _).mono ?_
    rintro e w' ⟨rfl, rfl⟩
    rw [H1.out]
    go_wp2
    go_ret
    exact ⟨by rw [HE.out]; rfl, HB.out⟩

set_option maxHeartbeats 1000000 in
theorem may_any (w : World) (k h s : Int) :
    Calls Try.prog 12 #[.agg #[.int .i64 k, .int .i64 h, .int .i64 s]] w fun r w' => r = .returned (.bool (may k h s)) ∧ Below w.heap.size w w' := by
  have HB := Lib.hid ((Below.refl w.heap.size w).alloc (Nat.le_refl _) (.cells #[.int .i64 k, .int .i64 h, .int .i64 s] 24))
  have HX := Lib.hid (boxed w k h s 24)
  have HN := Lib.hid none_any
  have HP := Lib.hid (fun w => place_any w k h s)
  by_cases h0 : k = 0
  · subst h0
    by_cases h1 : h = -1
    · subst h1
      by_cases h2 : s = 0
      · subst h2
        have HE := Lib.hid (show may 0 (-1) 0 = true by decide)
        go_enter Try.func12, Try.ntmps12
        go_wp2
        generalize w.alloc (.cells #[.int .i64 0, .int .i64 (-1), .int .i64 0] 24) = W at *
        have hc0 := HX.out.c0
        have hc1 := HX.out.c1
        have hc2 := HX.out.c2
        go_region_held3 (fun W' => W'.cell? ⟨w.heap.size, 0, none⟩ = some (.int .i64 0) ∧ W'.cell? ⟨w.heap.size, 1, none⟩ = some (.int .i64 (-1)) ∧ W'.cell? ⟨w.heap.size, 2, none⟩ = some (.int .i64 0)) (go_keep)
          (first
          | (go_at_call 15
             with_reducible refine (HN.out _).mono ?_
             rintro e w1 ⟨rfl, hb⟩
             have HY := Lib.hid (HX.out.drew.keep hb)
             have hk0 := HY.out.c0
             have hk1 := HY.out.c1
             have hk2 := HY.out.c2
             have HB1 := Lib.hid (HB.out.drew.trans (hb.mono HB.out.drew.size))
             clear hb))
        go_wp2
        go_ret
        exact ⟨by rw [HE.out]; rfl, HB1.out⟩
      · have HE := Lib.hid (show may 0 (-1) s = false by unfold may May; exact decide_eq_false (by omega))
        go_enter Try.func12, Try.ntmps12
        go_wp2
        generalize w.alloc (.cells #[.int .i64 0, .int .i64 (-1), .int .i64 s] 24) = W at *
        have hc0 := HX.out.c0
        have hc1 := HX.out.c1
        have hc2 := HX.out.c2
        go_region_held3 (fun W' => W'.cell? ⟨w.heap.size, 0, none⟩ = some (.int .i64 0) ∧ W'.cell? ⟨w.heap.size, 1, none⟩ = some (.int .i64 (-1)) ∧ W'.cell? ⟨w.heap.size, 2, none⟩ = some (.int .i64 s)) (go_keep)
          (first
          | (go_at_call 15
             with_reducible refine (HN.out _).mono ?_
             rintro e w1 ⟨rfl, hb⟩
             have HY := Lib.hid (HX.out.drew.keep hb)
             have hk0 := HY.out.c0
             have hk1 := HY.out.c1
             have hk2 := HY.out.c2
             have HB1 := Lib.hid (HB.out.drew.trans (hb.mono HB.out.drew.size))
             clear hb))
        go_wp2
        go_ret
        exact ⟨by rw [HE.out]; rfl, HB1.out⟩
    · have HE := Lib.hid (show may 0 h s = false by unfold may May; exact decide_eq_false (by omega))
      go_enter Try.func12, Try.ntmps12
      go_wp2
      generalize w.alloc (.cells #[.int .i64 0, .int .i64 h, .int .i64 s] 24) = W at *
      have hc0 := HX.out.c0
      have hc1 := HX.out.c1
      have hc2 := HX.out.c2
      go_region_held3 (fun W' => W'.cell? ⟨w.heap.size, 0, none⟩ = some (.int .i64 0) ∧ W'.cell? ⟨w.heap.size, 1, none⟩ = some (.int .i64 h) ∧ W'.cell? ⟨w.heap.size, 2, none⟩ = some (.int .i64 s)) (go_keep)
        (first
        | (go_at_call 15
           with_reducible refine (HN.out _).mono ?_
           rintro e w1 ⟨rfl, hb⟩
           have HY := Lib.hid (HX.out.drew.keep hb)
           have hk0 := HY.out.c0
           have hk1 := HY.out.c1
           have hk2 := HY.out.c2
           have HB1 := Lib.hid (HB.out.drew.trans (hb.mono HB.out.drew.size))
           clear hb))
      go_wp2
      go_ret
      exact ⟨by rw [HE.out]; rfl, HB1.out⟩
  · by_cases h1 : k = 1
    · subst h1
      have HE := Lib.hid (show may 1 h s = plc h s by unfold may May plc; simp)
      go_enter Try.func12, Try.ntmps12
      go_wp2_with fail
      refine (HP.out _).mono ?_
      rintro e w' ⟨rfl, hb⟩
      have HB1 := Lib.hid (HB.out.trans (hb.mono HB.out.size))
      clear hb
      go_wp2
      go_ret
      exact ⟨by rw [HE.out]; rfl, HB1.out⟩
    · by_cases h2 : k = 2
      · subst h2
        cases hp : plc h s with
        | true =>
          have hs := of_decide_eq_true (show decide ((-1 ≤ h ∧ h ≤ 65533) ∧ (0 ≤ s ∧ s ≤ 268435456) ∧ (h = -1 ↔ s = 0)) = true from hp)
          have HE := Lib.hid (show may 2 h s = (s % 64 == 0) by
            unfold may May
            by_cases e : s % 64 = 0 <;> simp [hs, e])
          have HQ := Lib.hid hp
          have hs0 : 0 ≤ s := hs.2.1.1
          have hs1 : s ≤ 268435456 := hs.2.1.2
          clear hs hp
          go_enter Try.func12, Try.ntmps12
          go_wp2_with fail
          refine (HP.out _).mono ?_
          rintro e w1 ⟨rfl, hb⟩
          rw [HQ.out]
          have HB1 := Lib.hid (HB.out.trans (hb.mono HB.out.size))
          have HX1 := Lib.hid (HX.out.keep hb)
          have hc2 := HX1.out.c2
          clear hb
          go_wp2
          go_ret
          exact ⟨by rw [HE.out]; rfl, HB1.out⟩
        | false =>
          have HE := Lib.hid (show may 2 h s = false by
            have hs := of_decide_eq_false (show decide ((-1 ≤ h ∧ h ≤ 65533) ∧ (0 ≤ s ∧ s ≤ 268435456) ∧ (h = -1 ↔ s = 0)) = false from hp)
            unfold may May
            exact decide_eq_false (fun h => by
              rcases h with h | h
              · exact absurd h.1 (by decide)
              · exact hs h.2))
          have HQ := Lib.hid hp
          clear hp
          go_enter Try.func12, Try.ntmps12
          go_wp2_with fail
          refine (HP.out _).mono ?_
          rintro e w1 ⟨rfl, hb⟩
          rw [HQ.out]
          have HB1 := Lib.hid (HB.out.trans (hb.mono HB.out.size))
          clear hb
          go_wp2
          go_ret
          exact ⟨by rw [HE.out]; rfl, HB1.out⟩
      · have HE := Lib.hid (show may k h s = false by
          unfold may May
          exact decide_eq_false (fun h => by
            rcases h with h | h
            · exact h0 h.1
            · rcases h.1 with h | h
              · exact h1 h
              · exact h2 h.1))
        go_enter Try.func12, Try.ntmps12
        go_wp2
        go_ret
        exact ⟨by rw [HE.out]; rfl, HB.out⟩
end Ino
end Go.Proofs.Ytoigfhijlnajoaa
