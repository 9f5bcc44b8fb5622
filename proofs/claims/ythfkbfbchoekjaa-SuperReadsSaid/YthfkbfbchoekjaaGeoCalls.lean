/- The calls that tell where everything stands. -/
import Derived.Test.YthfkbfbchoekjaaGeoMay
namespace Go.Proofs.Ythfkbfbchoekjaa
open Go.RowKit Go.MapKept
namespace Geo

/-- x, if it may be; else y -/
def iff' (n m s x y : Int) : Int := if may n m s = true then x else y
theorem iff_yes {n m s x y : Int} (h : may n m s = true) : iff' n m s x y = x := if_pos h
theorem iff_no {n m s x y : Int} (h : may n m s = false) : iff' n m s x y = y := if_neg (by simp [h])

theorem words_any (w : World) (n m s : Int) :
    Calls Try.prog 35 #[.agg #[.int .i64 n, .int .i64 m, .int .i64 s]] w fun r w' => r = .returned (.int .i64 (iff' n m s (fin n m s) 0)) ∧ Below w.heap.size w w' := by
  have HM := Lib.hid (fun w => may_any w n m s)
  have HB := Lib.hid ((Below.refl w.heap.size w).alloc (Nat.le_refl _) (.cells #[.int .i64 n, .int .i64 m, .int .i64 s] 24))
  have HX := Lib.hid (boxed w n m s 24)
  cases hm : may n m s with
  | false =>
    have HE := Lib.hid hm
    have HI := Lib.hid (iff_no (x := fin n m s) (y := 0) hm)
    clear hm
    go_enter Try.func35, Try.ntmps35
    go_wp2_with fail
    refine (HM.out _).mono ?_
    rintro e w' ⟨rfl, hb⟩
    rw [HE.out]
    have HB1 := Lib.hid (HB.out.trans (hb.mono HB.out.size))
    clear hb
    go_wp2
    go_ret
    exact ⟨by rw [HI.out]; rfl, HB1.out⟩
  | true =>
    have HE := Lib.hid hm
    have HI := Lib.hid (iff_yes (x := fin n m s) (y := 0) hm)
    obtain ⟨⟨h1, h2, h3⟩, _⟩ := may_num hm
    have HN := Lib.hid (fun w => end_any w n m s h1 h2 h3)
    clear hm h1 h2 h3
    go_enter Try.func35, Try.ntmps35
    go_wp2_with fail
    refine (HM.out _).mono ?_
    rintro e w1 ⟨rfl, hb⟩
    rw [HE.out]
    have HB1 := Lib.hid (HB.out.trans (hb.mono HB.out.size))
    have HX1 := Lib.hid (HX.out.keep hb)
    clear hb
    have hc0 := HX1.out.c0
    have hc1 := HX1.out.c1
    have hc2 := HX1.out.c2
    go_wp2_with fail
    refine (HN.out _).mono ?_
    rintro e w2 ⟨rfl, hb⟩
    have HB2 := Lib.hid (HB1.out.trans (hb.mono HB1.out.size))
    clear hb
    go_wp2
    go_ret
    exact ⟨by rw [HI.out]; rfl, HB2.out⟩

theorem inode_any (w : World) (n m s i : Int) :
    Calls Try.prog 43 #[.agg #[.int .i64 n, .int .i64 m, .int .i64 s], .int .i64 i] w fun r w' => r = .returned (.int .i64 (plc n m s i m 16 8)) ∧ Below w.heap.size w w' := by
  have HP := Lib.hid (fun w => place_any w n m s i m 16 8 (fun h => (may_num h).1.2.1) (fun _ => by decide) (fun _ => by decide))
  have HB := Lib.hid ((Below.refl w.heap.size w).alloc (Nat.le_refl _) (.cells #[.int .i64 n, .int .i64 m, .int .i64 s] 24))
  go_enter Try.func43, Try.ntmps43
  go_wp2_with fail
  refine (HP.out _).mono ?_
  rintro e w1 ⟨rfl, hb⟩
  have HB1 := Lib.hid (HB.out.trans (hb.mono HB.out.size))
  clear hb
  go_wp2
  go_ret
  exact ⟨rfl, HB1.out⟩

set_option maxHeartbeats 1000000 in
theorem slot_any (w : World) (n m s i : Int) :
    Calls Try.prog 44 #[.agg #[.int .i64 n, .int .i64 m, .int .i64 s], .int .i64 i] w fun r w' => r = .returned (.int .i64 (plc n m s i n (16 + m * 8) 1)) ∧ Below w.heap.size w w' := by
  have HS : Hid (∀ w, Calls Try.prog 62 #[.agg #[.int .i64 n, .int .i64 m, .int .i64 s]] w fun r w' => ∃ v, r = .returned (.int .i64 v) ∧ (may n m s = true → v = 16 + m * 8) ∧ Below w.heap.size w w') := Lib.hid (fun w => by
    cases hm : may n m s with
    | false => exact (slotsAt_some w n m s).mono fun r w' ⟨v, h1, _, h2⟩ => ⟨v, h1, (fun h => by cases h), h2⟩
    | true =>
      obtain ⟨⟨_, h2, _⟩, _⟩ := may_num hm
      exact (slotsAt_any w n m s (by omega) (by omega)).mono fun r w' ⟨h1, h2⟩ => ⟨_, h1, fun _ => rfl, h2⟩)
  have HP : Hid (∀ w v, (may n m s = true → v = 16 + m * 8) → Calls Try.prog 61 #[.agg #[.int .i64 n, .int .i64 m, .int .i64 s], .int .i64 i, .int .i64 n, .int .i64 v, .int .i64 1] w fun r w' => r = .returned (.int .i64 (plc n m s i n (16 + m * 8) 1)) ∧ Below w.heap.size w w') := Lib.hid (fun w v hv => by
    refine (place_any w n m s i n v 1 (fun h => (may_num h).1.1) (fun h => by have := hv h; have := (may_num h).1.2.1; omega) (fun _ => by decide)).mono ?_
    rintro r w' ⟨rfl, hb⟩
    refine ⟨?_, hb⟩
    cases hm : may n m s with
    | false => rw [plc_no hm, plc_no hm]
    | true => rw [hv hm])
  have HB := Lib.hid ((Below.refl w.heap.size w).alloc (Nat.le_refl _) (.cells #[.int .i64 n, .int .i64 m, .int .i64 s] 24))
  have HX := Lib.hid (boxed w n m s 24)
  go_enter Try.func44, Try.ntmps44
  go_wp2
  generalize w.alloc (.cells #[.int .i64 n, .int .i64 m, .int .i64 s] 24) = W at *
  have hc0 := HX.out.c0
  have hc1 := HX.out.c1
  have hc2 := HX.out.c2
  go_region_held3 (fun W' => W'.cell? ⟨w.heap.size, 0, none⟩ = some (.int .i64 n) ∧ W'.cell? ⟨w.heap.size, 1, none⟩ = some (.int .i64 m) ∧ W'.cell? ⟨w.heap.size, 2, none⟩ = some (.int .i64 s)) (go_keep)
    (first
    | (go_at_call 62
       with_reducible refine (HS.out _).mono ?_
       rintro e w1 ⟨v1, rfl, hv, hb⟩
       have HV := Lib.hid hv
       have HY := Lib.hid (HX.out.drew.keep hb)
       have hk0 := HY.out.c0
       have hk1 := HY.out.c1
       have hk2 := HY.out.c2
       have HB1 := Lib.hid (HB.out.drew.trans (hb.mono HB.out.drew.size))
       clear hb hv)
    | (go_at_call 61
       with_reducible refine (HP.out _ _ HV.out).mono ?_
       rintro e w2 ⟨rfl, hb⟩
       have HZ := Lib.hid (HY.out.keep hb)
       have hl0 := HZ.out.c0
       have hl1 := HZ.out.c1
       have hl2 := HZ.out.c2
       have HB2 := Lib.hid (HB1.out.trans (hb.mono HB1.out.size))
       clear hb))
  go_wp2
  go_ret
  exact ⟨rfl, HB2.out⟩

set_option maxHeartbeats 1000000 in
theorem block_any (w : World) (n m s i : Int) (hn : I64 n) (hs : I64 s) :
    Calls Try.prog 45 #[.agg #[.int .i64 n, .int .i64 m, .int .i64 s], .int .i64 i] w fun r w' => r = .returned (.int .i64 (plc n m s i n (bkAt n m) (s / 8))) ∧ Below w.heap.size w w' := by
  have HS : Hid (∀ w, Calls Try.prog 63 #[.agg #[.int .i64 n, .int .i64 m, .int .i64 s]] w fun r w' => ∃ v, r = .returned (.int .i64 v) ∧ (may n m s = true → v = bkAt n m) ∧ Below w.heap.size w w') := Lib.hid (fun w => by
    cases hm : may n m s with
    | false => exact (blocksAt_some w n m s hn).mono fun r w' ⟨v, h1, _, h2⟩ => ⟨v, h1, (fun h => by cases h), h2⟩
    | true =>
      obtain ⟨⟨h1, h2, _⟩, _⟩ := may_num hm
      exact (blocksAt_any w n m s h1 h2).mono fun r w' ⟨h1, h2⟩ => ⟨_, h1, fun _ => rfl, h2⟩)
  have HQ : Hid (∀ w, Calls Try.prog 64 #[.agg #[.int .i64 n, .int .i64 m, .int .i64 s]] w fun r w' => ∃ v, r = .returned (.int .i64 v) ∧ (may n m s = true → v = s / 8) ∧ Below w.heap.size w w') := Lib.hid (fun w => by
    cases hm : may n m s with
    | false => exact (blockWords_some w n m s hs).mono fun r w' ⟨v, h1, _, h2⟩ => ⟨v, h1, (fun h => by cases h), h2⟩
    | true =>
      obtain ⟨⟨_, _, h3⟩, _⟩ := may_num hm
      exact (blockWords_any w n m s (by have := h3.bounds; omega) (by have := h3.bounds; omega)).mono fun r w' ⟨h1, h2⟩ => ⟨_, h1, fun _ => rfl, h2⟩)
  have HP : Hid (∀ w v q, (may n m s = true → v = bkAt n m) → (may n m s = true → q = s / 8) → Calls Try.prog 61 #[.agg #[.int .i64 n, .int .i64 m, .int .i64 s], .int .i64 i, .int .i64 n, .int .i64 v, .int .i64 q] w fun r w' => r = .returned (.int .i64 (plc n m s i n (bkAt n m) (s / 8))) ∧ Below w.heap.size w w') := Lib.hid (fun w v q hv hq => by
    refine (place_any w n m s i n v q (fun h => (may_num h).1.1) (fun h => by have := hv h; have := bk_bounds (may_num h).1.1 (may_num h).1.2.1; omega) (fun h => by have := hq h; have := (may_num h).1.2.2.bounds; omega)).mono ?_
    rintro r w' ⟨rfl, hb⟩
    refine ⟨?_, hb⟩
    cases hm : may n m s with
    | false => rw [plc_no hm, plc_no hm]
    | true => rw [hv hm, hq hm])
  have HB := Lib.hid ((Below.refl w.heap.size w).alloc (Nat.le_refl _) (.cells #[.int .i64 n, .int .i64 m, .int .i64 s] 24))
  have HX := Lib.hid (boxed w n m s 24)
  clear hn hs
  go_enter Try.func45, Try.ntmps45
  go_wp2
  generalize w.alloc (.cells #[.int .i64 n, .int .i64 m, .int .i64 s] 24) = W at *
  have hc0 := HX.out.c0
  have hc1 := HX.out.c1
  have hc2 := HX.out.c2
  go_region_held3 (fun W' => W'.cell? ⟨w.heap.size, 0, none⟩ = some (.int .i64 n) ∧ W'.cell? ⟨w.heap.size, 1, none⟩ = some (.int .i64 m) ∧ W'.cell? ⟨w.heap.size, 2, none⟩ = some (.int .i64 s)) (go_keep)
    (first
    | (go_at_call 63
       with_reducible refine (HS.out _).mono ?_
       rintro e w1 ⟨v1, rfl, hv, hb⟩
       have HV := Lib.hid hv
       have HY := Lib.hid (HX.out.drew.keep hb)
       have hk0 := HY.out.c0
       have hk1 := HY.out.c1
       have hk2 := HY.out.c2
       have HB1 := Lib.hid (HB.out.drew.trans (hb.mono HB.out.drew.size))
       clear hb hv)
    | (go_at_call 64
       with_reducible refine (HQ.out _).mono ?_
       rintro e w2 ⟨v2, rfl, hv, hb⟩
       have HV2 := Lib.hid hv
       have HZ := Lib.hid (HY.out.keep hb)
       have hl0 := HZ.out.c0
       have hl1 := HZ.out.c1
       have hl2 := HZ.out.c2
       have HB2 := Lib.hid (HB1.out.trans (hb.mono HB1.out.size))
       clear hb hv)
    | (go_at_call 61
       with_reducible refine (HP.out _ _ _ HV.out HV2.out).mono ?_
       rintro e w3 ⟨rfl, hb⟩
       have HT := Lib.hid (HZ.out.keep hb)
       have ho0 := HT.out.c0
       have ho1 := HT.out.c1
       have ho2 := HT.out.c2
       have HB3 := Lib.hid (HB2.out.trans (hb.mono HB2.out.size))
       clear hb))
  go_wp2
  go_ret
  exact ⟨rfl, HB3.out⟩
end Geo
end Go.Proofs.Ythfkbfbchoekjaa
