/- May it be? Where one of so many stands. -/
import Derived.Test.YthfkbfbchoekjaaGeoSome
namespace Go.Proofs.Ythfkbfbchoekjaa
open Go.RowKit Go.MapKept
namespace Geo

set_option maxHeartbeats 1000000 in
theorem may_any (w : World) (n m s : Int) :
    Calls Try.prog 21 #[.agg #[.int .i64 n, .int .i64 m, .int .i64 s]] w fun r w' => r = .returned (.bool (may n m s)) ∧ Below w.heap.size w w' := by
  have HI := Lib.hid (fun w n => within_any w n 1 65534)
  have HS := Lib.hid (fun w => size_any w s)
  have HB := Lib.hid ((Below.refl w.heap.size w).alloc (Nat.le_refl _) (.cells #[.int .i64 n, .int .i64 m, .int .i64 s] 24))
  by_cases h1 : 1 ≤ n ∧ n ≤ 65534
  · by_cases h2 : 1 ≤ m ∧ m ≤ 65534
    · by_cases h3 : Sz s
      · have HE := Lib.hid (fun w => end_any w n m s h1 h2 h3)
        have H1 := Lib.hid (decide_eq_true h1)
        have H2 := Lib.hid (decide_eq_true h2)
        have H3 := Lib.hid (decide_eq_true h3)
        have hf := fin_bounds h1 h2 h3
        have HM := Lib.hid (show may n m s = decide (fin n m s ≤ 4194304) by unfold may Num; simp [h1, h2, h3])
        clear h1 h2 h3
        go_enter Try.func21, Try.ntmps21
        go_wp2_with fail
        refine (HI.out _ _).mono ?_
        rintro e w' ⟨rfl, rfl⟩
        rw [H1.out]
        go_wp2_with fail
        refine (HI.out _ _).mono ?_
        rintro e w' ⟨rfl, rfl⟩
        rw [H2.out]
        go_wp2_with fail
        refine (HS.out _).mono ?_
        rintro e w' ⟨rfl, rfl⟩
        rw [H3.out]
        go_wp2_with fail
        refine (HE.out _).mono ?_
        rintro e w' ⟨rfl, hb⟩
        have HB1 := Lib.hid (HB.out.trans (hb.mono HB.out.size))
        clear hb
        go_wp2
        go_ret
        exact ⟨by rw [HM.out]; rfl, HB1.out⟩
      · have H1 := Lib.hid (decide_eq_true h1)
        have H2 := Lib.hid (decide_eq_true h2)
        have H3 := Lib.hid (decide_eq_false h3)
        have HM := Lib.hid (show may n m s = false from may_no (fun h => h3 h.1.2.2))
        clear h1 h2 h3
        go_enter Try.func21, Try.ntmps21
        go_wp2_with fail
        refine (HI.out _ _).mono ?_
        rintro e w' ⟨rfl, rfl⟩
        rw [H1.out]
        go_wp2_with fail
        refine (HI.out _ _).mono ?_
        rintro e w' ⟨rfl, rfl⟩
        rw [H2.out]
        go_wp2_with fail
        refine (HS.out _).mono ?_
        rintro e w' ⟨rfl, rfl⟩
        rw [H3.out]
        go_wp2
        go_ret
        exact ⟨by rw [HM.out]; rfl, HB.out⟩
    · have H1 := Lib.hid (decide_eq_true h1)
      have H2 := Lib.hid (decide_eq_false h2)
      have HM := Lib.hid (show may n m s = false from may_no (fun h => h2 h.1.2.1))
      clear h1 h2
      go_enter Try.func21, Try.ntmps21
      go_wp2_with fail
      refine (HI.out _ _).mono ?_
      rintro e w' ⟨rfl, rfl⟩
      rw [H1.out]
      go_wp2_with fail
      refine (HI.out _ _).mono ?_
      rintro e w' ⟨rfl, rfl⟩
      rw [H2.out]
      go_wp2
      go_ret
      exact ⟨by rw [HM.out]; rfl, HB.out⟩
  · have H1 := Lib.hid (decide_eq_false h1)
    have HM := Lib.hid (show may n m s = false from may_no (fun h => h1 h.1.1))
    clear h1
    go_enter Try.func21, Try.ntmps21
    go_wp2_with fail
    refine (HI.out _ _).mono ?_
    rintro e w' ⟨rfl, rfl⟩
    rw [H1.out]
    go_wp2
    go_ret
    exact ⟨by rw [HM.out]; rfl, HB.out⟩

theorem has_no (w : World) (n m s i c : Int) (hm : may n m s = false) :
    Calls Try.prog 67 #[.agg #[.int .i64 n, .int .i64 m, .int .i64 s], .int .i64 i, .int .i64 c] w fun r w' => r = .returned (.bool false) ∧ Below w.heap.size w w' := by
  have HM := Lib.hid (fun w => may_any w n m s)
  have HE := Lib.hid hm
  clear hm
  have HB := Lib.hid ((Below.refl w.heap.size w).alloc (Nat.le_refl _) (.cells #[.int .i64 n, .int .i64 m, .int .i64 s] 24))
  go_enter Try.func67, Try.ntmps67
  go_wp2_with fail
  refine (HM.out _).mono ?_
  rintro e w' ⟨rfl, hb⟩
  rw [HE.out]
  have HB1 := Lib.hid (HB.out.trans (hb.mono HB.out.size))
  clear hb
  go_wp2
  go_ret
  exact ⟨rfl, HB1.out⟩

theorem has_yes (w : World) (n m s i c : Int) (hm : may n m s = true) (hc : 1 ≤ c) (hc2 : c ≤ 65534) :
    Calls Try.prog 67 #[.agg #[.int .i64 n, .int .i64 m, .int .i64 s], .int .i64 i, .int .i64 c] w fun r w' => r = .returned (.bool (decide (0 ≤ i ∧ i ≤ c - 1))) ∧ Below w.heap.size w w' := by
  have HM := Lib.hid (fun w => may_any w n m s)
  have HI := Lib.hid (fun w => within_any w i 0 (c - 1))
  have HE := Lib.hid hm
  clear hm
  have HB := Lib.hid ((Below.refl w.heap.size w).alloc (Nat.le_refl _) (.cells #[.int .i64 n, .int .i64 m, .int .i64 s] 24))
  go_enter Try.func67, Try.ntmps67
  go_wp2_with fail
  refine (HM.out _).mono ?_
  rintro e w' ⟨rfl, hb⟩
  rw [HE.out]
  have HB1 := Lib.hid (HB.out.trans (hb.mono HB.out.size))
  clear hb
  go_wp2_with fail
  refine (HI.out _).mono ?_
  rintro e w' ⟨rfl, rfl⟩
  by_cases h : 0 ≤ i ∧ i ≤ c - 1
  · have H := Lib.hid (decide_eq_true h)
    clear h
    rw [H.out]
    go_wp2
    go_ret
    exact ⟨by rw [H.out]; rfl, HB1.out⟩
  · have H := Lib.hid (decide_eq_false h)
    clear h
    rw [H.out]
    go_wp2
    go_ret
    exact ⟨by rw [H.out]; rfl, HB1.out⟩

/-- where one of so many stands -/
def plc (n m s i c a e : Int) : Int := if may n m s = true ∧ 0 ≤ i ∧ i < c then a + i * e else -1
theorem plc_yes {n m s i c a e : Int} (h1 : may n m s = true) (h2 : 0 ≤ i) (h3 : i < c) : plc n m s i c a e = a + i * e := if_pos ⟨h1, h2, h3⟩
theorem plc_no {n m s i c a e : Int} (h : may n m s = false) : plc n m s i c a e = -1 := if_neg (fun h' => by simp [h] at h')
theorem plc_out {n m s i c a e : Int} (h : ¬ (0 ≤ i ∧ i < c)) : plc n m s i c a e = -1 := if_neg (fun h' => h h'.2)

theorem place_any (w : World) (n m s i c a e : Int) (hc : may n m s = true → 1 ≤ c ∧ c ≤ 65534) (ha : may n m s = true → 0 ≤ a ∧ a ≤ 1000000) (he : may n m s = true → 0 ≤ e ∧ e ≤ 512) :
    Calls Try.prog 61 #[.agg #[.int .i64 n, .int .i64 m, .int .i64 s], .int .i64 i, .int .i64 c, .int .i64 a, .int .i64 e] w fun r w' => r = .returned (.int .i64 (plc n m s i c a e)) ∧ Below w.heap.size w w' := by
  have HB := Lib.hid ((Below.refl w.heap.size w).alloc (Nat.le_refl _) (.cells #[.int .i64 n, .int .i64 m, .int .i64 s] 24))
  cases hm : may n m s with
  | false =>
    have HH := Lib.hid (fun w => has_no w n m s i c hm)
    have HP := Lib.hid (plc_no (i := i) (c := c) (a := a) (e := e) hm)
    clear hm hc ha he
    go_enter Try.func61, Try.ntmps61
    go_wp2_with fail
    refine (HH.out _).mono ?_
    rintro e w' ⟨rfl, hb⟩
    have HB1 := Lib.hid (HB.out.trans (hb.mono HB.out.size))
    clear hb
    go_wp2
    go_ret
    exact ⟨by rw [HP.out]; rfl, HB1.out⟩
  | true =>
    obtain ⟨hc1, hc2⟩ := hc hm
    obtain ⟨ha1, ha2⟩ := ha hm
    obtain ⟨he1, he2⟩ := he hm
    have HH := Lib.hid (fun w => has_yes w n m s i c hm hc1 hc2)
    by_cases h : 0 ≤ i ∧ i ≤ c - 1
    · have HP := Lib.hid (plc_yes (i := i) (c := c) (a := a) (e := e) hm h.1 (by omega))
      have HD := Lib.hid (decide_eq_true h)
      have hx := mul_bounds (i := i) (a := 65534) (q := e) (b := 512) (by omega) (by omega) he1 he2
      clear hm hc ha he
      go_enter Try.func61, Try.ntmps61
      go_wp2_with fail
      refine (HH.out _).mono ?_
      rintro r w' ⟨rfl, hb⟩
      rw [HD.out]
      have HB1 := Lib.hid (HB.out.trans (hb.mono HB.out.size))
      clear hb
      go_wp2
      go_ret
      exact ⟨by rw [HP.out]; rfl, HB1.out⟩
    · have HP := Lib.hid (plc_out (n := n) (m := m) (s := s) (i := i) (c := c) (a := a) (e := e) (by omega))
      have HD := Lib.hid (decide_eq_false h)
      clear hm hc ha he h
      go_enter Try.func61, Try.ntmps61
      go_wp2_with fail
      refine (HH.out _).mono ?_
      rintro r w' ⟨rfl, hb⟩
      rw [HD.out]
      have HB1 := Lib.hid (HB.out.trans (hb.mono HB.out.size))
      clear hb
      go_wp2
      go_ret
      exact ⟨by rw [HP.out]; rfl, HB1.out⟩
end Geo
end Go.Proofs.Ythfkbfbchoekjaa
