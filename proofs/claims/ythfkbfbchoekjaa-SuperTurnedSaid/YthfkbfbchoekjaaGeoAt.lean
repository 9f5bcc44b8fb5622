/- Where the parts begin, and where the last one ends. -/
import Derived.Test.YthfkbfbchoekjaaGeoStep
namespace Go.Proofs.Ythfkbfbchoekjaa
open Go.RowKit Go.MapKept
namespace Geo

theorem blockWords_any (w : World) (n m s : Int) (h : 0 ≤ s) (h2 : s ≤ 9223372036854775807) :
    Calls Try.prog 64 #[.agg #[.int .i64 n, .int .i64 m, .int .i64 s]] w fun r w' => r = .returned (.int .i64 (s / 8)) ∧ Below w.heap.size w w' := by
  go_enter Try.func64, Try.ntmps64
  go_wp2
  go_ret
  exact ⟨rfl, (Below.refl _ _).alloc (Nat.le_refl _) _⟩

theorem bitWords_any (w : World) (n m s : Int) (h : 0 ≤ n) (h2 : n ≤ 9223372036854775807) :
    Calls Try.prog 60 #[.agg #[.int .i64 n, .int .i64 m, .int .i64 s]] w fun r w' => r = .returned (.int .i64 ((n + 63) / 64)) ∧ Below w.heap.size w w' := by
  have HE := Lib.hid (prt64 n)
  go_enter Try.func60, Try.ntmps60
  go_wp2_with (go_at_call 66; refine (parts_any _ _ _ h h2 (by decide)).mono ?_; rintro e w' ⟨rfl, rfl⟩)
  go_ret
  exact ⟨by rw [← HE.out]; rfl, (Below.refl _ _).alloc (Nat.le_refl _) _⟩

theorem slotsAt_any (w : World) (n m s : Int) (h : 0 ≤ m) (h2 : m ≤ 1000000) :
    Calls Try.prog 62 #[.agg #[.int .i64 n, .int .i64 m, .int .i64 s]] w fun r w' => r = .returned (.int .i64 (16 + m * 8)) ∧ Below w.heap.size w w' := by
  go_enter Try.func62, Try.ntmps62
  go_wp2
  go_ret
  exact ⟨rfl, (Below.refl _ _).alloc (Nat.le_refl _) _⟩

/-- a geometry lies in block b -/
structure Box (w : World) (b : Nat) (n m s : Int) : Prop where
  lt : b < w.heap.size
  c0 : w.cell? ⟨b, 0, none⟩ = some (.int .i64 n)
  c1 : w.cell? ⟨b, 1, none⟩ = some (.int .i64 m)
  c2 : w.cell? ⟨b, 2, none⟩ = some (.int .i64 s)
theorem Box.keep {w w' : World} {b : Nat} {n m s : Int} (h : Box w b n m s) (hb : Below w.heap.size w w') : Box w' b n m s :=
  ⟨Nat.lt_of_lt_of_le h.lt hb.size, (hb.cell (p := ⟨b, 0, none⟩) h.lt).trans h.c0, (hb.cell (p := ⟨b, 1, none⟩) h.lt).trans h.c1, (hb.cell (p := ⟨b, 2, none⟩) h.lt).trans h.c2⟩
theorem Box.drew {w : World} {b : Nat} {n m s : Int} (h : Box w b n m s) : Box w.drew b n m s := ⟨h.lt, h.c0, h.c1, h.c2⟩
theorem boxed (w : World) (n m s : Int) (t : TypeId) : Box (w.alloc (.cells #[.int .i64 n, .int .i64 m, .int .i64 s] t)) w.heap.size n m s :=
  ⟨by simp, World.cell?_alloc_mark w _ t _ 0, World.cell?_alloc_mark w _ t _ 1, World.cell?_alloc_mark w _ t _ 2⟩

set_option maxHeartbeats 1000000 in
theorem bitmapAt_any (w : World) (n m s : Int) (h1 : 1 ≤ n ∧ n ≤ 65534) (h2 : 1 ≤ m ∧ m ≤ 65534) :
    Calls Try.prog 59 #[.agg #[.int .i64 n, .int .i64 m, .int .i64 s]] w fun r w' => r = .returned (.int .i64 (bmAt n m)) ∧ Below w.heap.size w w' := by
  have hl : 0 ≤ lines n ∧ lines n ≤ 70000 := by unfold lines; omega
  have HS := Lib.hid (fun w => slotsAt_any w n m s (by omega) (by omega))
  have HF := Lib.hid (fun w => filled_any w n (by omega) (by omega))
  have HW := Lib.hid (show IntKind.i64.wrap (16 + m * 8 + lines n) = bmAt n m from IntWalk.i64_in _ (by omega))
  have HX := Lib.hid (boxed w n m s 24)
  have HB := Lib.hid ((Below.refl w.heap.size w).alloc (Nat.le_refl _) (.cells #[.int .i64 n, .int .i64 m, .int .i64 s] 24))
  go_enter Try.func59, Try.ntmps59
  go_wp2
  generalize w.alloc (.cells #[.int .i64 n, .int .i64 m, .int .i64 s] 24) = W at *
  have hc0 := HX.out.c0
  have hc1 := HX.out.c1
  have hc2 := HX.out.c2
  go_region_held3 (fun W' => W'.cell? ⟨w.heap.size, 0, none⟩ = some (.int .i64 n) ∧ W'.cell? ⟨w.heap.size, 1, none⟩ = some (.int .i64 m) ∧ W'.cell? ⟨w.heap.size, 2, none⟩ = some (.int .i64 s)) (go_keep)
    (first
    | (go_at_call 62
       with_reducible refine (HS.out _).mono ?_
       rintro e w1 ⟨rfl, hb⟩
       have HY := Lib.hid (HX.out.drew.keep hb)
       have hk0 := HY.out.c0
       have hk1 := HY.out.c1
       have hk2 := HY.out.c2
       have HB1 := Lib.hid (HB.out.drew.trans (hb.mono HB.out.drew.size))
       clear hb)
    | (go_at_call 65
       with_reducible refine (HF.out _).mono ?_
       rintro e w1 ⟨rfl, rfl⟩))
  go_wp2
  go_ret
  exact ⟨congrArg (fun x => Ending.returned (.int .i64 x)) HW.out, HB1.out⟩

set_option maxHeartbeats 1000000 in
theorem blocksAt_any (w : World) (n m s : Int) (h1 : 1 ≤ n ∧ n ≤ 65534) (h2 : 1 ≤ m ∧ m ≤ 65534) :
    Calls Try.prog 63 #[.agg #[.int .i64 n, .int .i64 m, .int .i64 s]] w fun r w' => r = .returned (.int .i64 (bkAt n m)) ∧ Below w.heap.size w w' := by
  have hbm := bm_bounds h1 h2
  have hl : 0 ≤ lines ((n + 63) / 64) ∧ lines ((n + 63) / 64) ≤ 70000 := by unfold lines; omega
  have HS := Lib.hid (fun w => bitmapAt_any w n m s h1 h2)
  have HN := Lib.hid (fun w => bitWords_any w n m s (by omega) (by omega))
  have HF := Lib.hid (fun w => filled_any w ((n + 63) / 64) (by omega) (by omega))
  have HW := Lib.hid (show IntKind.i64.wrap (bmAt n m + lines ((n + 63) / 64)) = bkAt n m from IntWalk.i64_in _ (by omega))
  have HX := Lib.hid (boxed w n m s 24)
  have HB := Lib.hid ((Below.refl w.heap.size w).alloc (Nat.le_refl _) (.cells #[.int .i64 n, .int .i64 m, .int .i64 s] 24))
  clear hbm
  go_enter Try.func63, Try.ntmps63
  go_wp2
  generalize w.alloc (.cells #[.int .i64 n, .int .i64 m, .int .i64 s] 24) = W at *
  have hc0 := HX.out.c0
  have hc1 := HX.out.c1
  have hc2 := HX.out.c2
  go_region_held3 (fun W' => W'.cell? ⟨w.heap.size, 0, none⟩ = some (.int .i64 n) ∧ W'.cell? ⟨w.heap.size, 1, none⟩ = some (.int .i64 m) ∧ W'.cell? ⟨w.heap.size, 2, none⟩ = some (.int .i64 s)) (go_keep)
    (first
    | (go_at_call 59
       with_reducible refine (HS.out _).mono ?_
       rintro e w1 ⟨rfl, hb⟩
       have HY := Lib.hid (HX.out.drew.keep hb)
       have hk0 := HY.out.c0
       have hk1 := HY.out.c1
       have hk2 := HY.out.c2
       have HB1 := Lib.hid (HB.out.drew.trans (hb.mono HB.out.drew.size))
       clear hb)
    | (go_at_call 60
       with_reducible refine (HN.out _).mono ?_
       rintro e w2 ⟨rfl, hb⟩
       have HZ := Lib.hid (HY.out.keep hb)
       have hl0 := HZ.out.c0
       have hl1 := HZ.out.c1
       have hl2 := HZ.out.c2
       have HB2 := Lib.hid (HB1.out.trans (hb.mono HB1.out.size))
       clear hb)
    | (go_at_call 65
       with_reducible refine (HF.out _).mono ?_
       rintro e w3 ⟨rfl, rfl⟩))
  go_wp2
  go_ret
  exact ⟨congrArg (fun x => Ending.returned (.int .i64 x)) HW.out, HB2.out⟩

set_option maxHeartbeats 1000000 in
theorem end_any (w : World) (n m s : Int) (h1 : 1 ≤ n ∧ n ≤ 65534) (h2 : 1 ≤ m ∧ m ≤ 65534) (h3 : Sz s) :
    Calls Try.prog 48 #[.agg #[.int .i64 n, .int .i64 m, .int .i64 s]] w fun r w' => r = .returned (.int .i64 (fin n m s)) ∧ Below w.heap.size w w' := by
  have hbk := bk_bounds h1 h2
  have hs := h3.bounds
  have hf := fin_bounds h1 h2 h3
  have HS := Lib.hid (fun w => blocksAt_any w n m s h1 h2)
  have HN := Lib.hid (fun w => blockWords_any w n m s (by omega) (by omega))
  have HW := Lib.hid (show IntKind.i64.wrap (bkAt n m + IntKind.i64.wrap (n * (s / 8))) = fin n m s by
    rw [IntWalk.i64_in (n * (s / 8)) (by omega)]
    exact IntWalk.i64_in _ (by have : fin n m s = bkAt n m + n * (s / 8) := rfl; omega))
  have HX := Lib.hid (boxed w n m s 24)
  have HB := Lib.hid ((Below.refl w.heap.size w).alloc (Nat.le_refl _) (.cells #[.int .i64 n, .int .i64 m, .int .i64 s] 24))
  clear hbk hs hf h3
  go_enter Try.func48, Try.ntmps48
  go_wp2
  generalize w.alloc (.cells #[.int .i64 n, .int .i64 m, .int .i64 s] 24) = W at *
  have hc0 := HX.out.c0
  have hc1 := HX.out.c1
  have hc2 := HX.out.c2
  go_region_held3 (fun W' => W'.cell? ⟨w.heap.size, 0, none⟩ = some (.int .i64 n) ∧ W'.cell? ⟨w.heap.size, 1, none⟩ = some (.int .i64 m) ∧ W'.cell? ⟨w.heap.size, 2, none⟩ = some (.int .i64 s)) (go_keep)
    (first
    | (go_at_call 63
       with_reducible refine (HS.out _).mono ?_
       rintro e w1 ⟨rfl, hb⟩
       have HY := Lib.hid (HX.out.drew.keep hb)
       have hk0 := HY.out.c0
       have hk1 := HY.out.c1
       have hk2 := HY.out.c2
       have HB1 := Lib.hid (HB.out.drew.trans (hb.mono HB.out.drew.size))
       clear hb)
    | (go_at_call 64
       with_reducible refine (HN.out _).mono ?_
       rintro e w2 ⟨rfl, hb⟩
       have HZ := Lib.hid (HY.out.keep hb)
       have hl0 := HZ.out.c0
       have hl1 := HZ.out.c1
       have hl2 := HZ.out.c2
       have HB2 := Lib.hid (HB1.out.trans (hb.mono HB1.out.size))
       clear hb))
  go_wp2
  go_ret
  exact ⟨congrArg (fun x => Ending.returned (.int .i64 x)) HW.out, HB2.out⟩
end Geo
end Go.Proofs.Ythfkbfbchoekjaa
