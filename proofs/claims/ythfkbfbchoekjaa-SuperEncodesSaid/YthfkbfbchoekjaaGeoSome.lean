/- Of numbers that may not be: where the parts would begin is some number. -/
import Derived.Test.YthfkbfbchoekjaaGeoAt
namespace Go.Proofs.Ythfkbfbchoekjaa
open Go.RowKit Go.MapKept
namespace Geo

/-- some number is returned, and what there was stays -/
def Some' (w : World) (r : Ending) (w' : World) : Prop := ∃ v, r = .returned (.int .i64 v) ∧ I64 v ∧ Below w.heap.size w w'

theorem blockWords_some (w : World) (n m s : Int) (h : I64 s) :
    Calls Try.prog 64 #[.agg #[.int .i64 n, .int .i64 m, .int .i64 s]] w (Some' w) := by
  by_cases h0 : 0 ≤ s
  · refine (blockWords_any w n m s h0 h.2).mono ?_
    rintro r w' ⟨rfl, hb⟩
    have := h.2
    exact ⟨_, rfl, by unfold I64; omega, hb⟩
  · have hd : -9223372036854775808 ≤ s.tdiv 8 ∧ s.tdiv 8 ≤ 0 := by
      obtain ⟨k, rfl⟩ : ∃ k : Nat, s = -(k : Int) := ⟨(-s).toNat, by omega⟩
      rw [Int.neg_tdiv]
      have h1 := h.1
      have : ((k : Int)).tdiv 8 = (k : Int) / 8 := Int.tdiv_eq_ediv_of_nonneg (by omega)
      omega
    obtain ⟨h1, h2⟩ := h
    go_enter Try.func64, Try.ntmps64
    go_wp2
    go_ret
    exact ⟨_, rfl, by unfold I64; omega, (Below.refl _ _).alloc (Nat.le_refl _) _⟩

theorem bitWords_some (w : World) (n m s : Int) (h : I64 n) :
    Calls Try.prog 60 #[.agg #[.int .i64 n, .int .i64 m, .int .i64 s]] w (Some' w) := by
  have HP := Lib.hid (fun w => parts_some w n 64 h (.inr rfl))
  go_enter Try.func60, Try.ntmps60
  go_wp2_with (go_at_call 66; refine (HP.out _).mono ?_; rintro e w' ⟨⟨v, rfl, hv⟩, rfl⟩)
  go_ret
  exact ⟨_, rfl, hv, (Below.refl _ _).alloc (Nat.le_refl _) _⟩

theorem slotsAt_some (w : World) (n m s : Int) :
    Calls Try.prog 62 #[.agg #[.int .i64 n, .int .i64 m, .int .i64 s]] w (Some' w) := by
  go_enter Try.func62, Try.ntmps62
  go_wp2
  go_ret
  exact ⟨_, rfl, by unfold I64 wrap64; omega, (Below.refl _ _).alloc (Nat.le_refl _) _⟩

set_option maxHeartbeats 1000000 in
theorem bitmapAt_some (w : World) (n m s : Int) (h1 : I64 n) :
    Calls Try.prog 59 #[.agg #[.int .i64 n, .int .i64 m, .int .i64 s]] w (Some' w) := by
  have HS := Lib.hid (fun w => slotsAt_some w n m s)
  have HF := Lib.hid (fun w => filled_some w n h1)
  have HX := Lib.hid (boxed w n m s 24)
  have HB := Lib.hid ((Below.refl w.heap.size w).alloc (Nat.le_refl _) (.cells #[.int .i64 n, .int .i64 m, .int .i64 s] 24))
  clear h1
  go_enter Try.func59, Try.ntmps59
  go_wp2
  generalize w.alloc (.cells #[.int .i64 n, .int .i64 m, .int .i64 s] 24) = W at *
  have hc0 := HX.out.c0
  have hc1 := HX.out.c1
  have hc2 := HX.out.c2
  go_region_held3 (fun W' => W'.cell? ⟨w.heap.size, 0, none⟩ = some (.int .i64 n) ∧ W'.cell? ⟨w.heap.size, 1, none⟩ = some (.int .i64 m) ∧ W'.cell? ⟨w.heap.size, 2, none⟩ = some (.int .i64 s)) (go_keep)
    (first
    | (go_at_call 62
       with_reducible refine (HS.out _).mono ?_
       rintro e w1 ⟨v1, rfl, _, hb⟩
       have HY := Lib.hid (HX.out.drew.keep hb)
       have hk0 := HY.out.c0
       have hk1 := HY.out.c1
       have hk2 := HY.out.c2
       have HB1 := Lib.hid (HB.out.drew.trans (hb.mono HB.out.drew.size))
       clear hb)
    | (go_at_call 65
       with_reducible refine (HF.out _).mono ?_
       rintro e w1 ⟨⟨v2, rfl, _⟩, rfl⟩))
  go_wp2
  go_ret
  exact ⟨_, rfl, i64_wrap _, HB1.out⟩

set_option maxHeartbeats 1000000 in
theorem blocksAt_some (w : World) (n m s : Int) (h1 : I64 n) :
    Calls Try.prog 63 #[.agg #[.int .i64 n, .int .i64 m, .int .i64 s]] w (Some' w) := by
  have HS := Lib.hid (fun w => bitmapAt_some w n m s h1)
  have HN := Lib.hid (fun w => bitWords_some w n m s h1)
  have HF := Lib.hid (fun w n h => filled_some w n h)
  have HX := Lib.hid (boxed w n m s 24)
  have HB := Lib.hid ((Below.refl w.heap.size w).alloc (Nat.le_refl _) (.cells #[.int .i64 n, .int .i64 m, .int .i64 s] 24))
  clear h1
  go_enter Try.func63, Try.ntmps63
  go_wp2
  generalize w.alloc (.cells #[.int .i64 n, .int .i64 m, .int .i64 s] 24) = W at *
  have hc0 := HX.out.c0
  have hc1 := HX.out.c1
  have hc2 := HX.out.c2
  go_region_held3 (fun W' => W'.cell? ⟨w.heap.size, 0, none⟩ = some (.int .i64 n) ∧ W'.cell? ⟨w.heap.size, 1, none⟩ = some (.int .i64 m) ∧ W'.cell? ⟨w.heap.size, 2, none⟩ = some (.int .i64 s)) (go_keep)
    (first
    | (go_at_call 59
       with_reducible refine (HS.out _).mono ?_
       rintro e w1 ⟨v1, rfl, _, hb⟩
       have HY := Lib.hid (HX.out.drew.keep hb)
       have hk0 := HY.out.c0
       have hk1 := HY.out.c1
       have hk2 := HY.out.c2
       have HB1 := Lib.hid (HB.out.drew.trans (hb.mono HB.out.drew.size))
       clear hb)
    | (go_at_call 60
       with_reducible refine (HN.out _).mono ?_
       rintro e w2 ⟨v2, rfl, hv2, hb⟩
       have HV := Lib.hid hv2
       clear hv2
       have HZ := Lib.hid (HY.out.keep hb)
       have hl0 := HZ.out.c0
       have hl1 := HZ.out.c1
       have hl2 := HZ.out.c2
       have HB2 := Lib.hid (HB1.out.trans (hb.mono HB1.out.size))
       clear hb)
    | (go_at_call 65
       with_reducible refine (HF.out _ _ HV.out).mono ?_
       rintro e w3 ⟨⟨v3, rfl, _⟩, rfl⟩))
  go_wp2
  go_ret
  exact ⟨_, rfl, i64_wrap _, HB2.out⟩
end Geo
end Go.Proofs.Ythfkbfbchoekjaa
