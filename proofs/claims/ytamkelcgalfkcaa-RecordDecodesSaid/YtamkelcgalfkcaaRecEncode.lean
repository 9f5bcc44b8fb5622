/- The program's line of a record: Encode, walked. -/
import Derived.Test.YtamkelcgalfkcaaRecMay
namespace Go.Proofs.Ytamkelcgalfkcaa
open Go.RowKit Go.MapKept
namespace Rec
open Lin

theorem field_any (w : World) (n : Nat) (h : n < 65536) :
    Calls Try.prog 18 #[.int .i64 (n : Int)] w fun r w' => r = .returned (.agg #[.int .i64 16, .int .u64 (n : Int)]) ∧ Below w.heap.size w w' := by
  go_enter Try.func18, Try.ntmps18
  go_wp2
  refine bodyPost_ret (v := .agg #[.int .i64 16, .int .u64 (n : Int)]) ?_ rfl ⟨rfl, ?_⟩
  · simp [results, Try.results18, go_sem]
  · first
    | exact (Below.refl _ _).alloc (Nat.le_refl _) _
    | exact (((Below.refl _ _).alloc (Nat.le_refl _) _).setCell (by simp) _).setCell (by simp) _

theorem field_one (w : World) : Calls Try.prog 18 #[.int .i64 1] w fun r w' => r = .returned (.agg #[.int .i64 16, .int .u64 1]) ∧ Below w.heap.size w w' := field_any w 1 (by decide)

theorem nums_any (w : World) {s f t : Nat} (hs : s < 65536) (hf : f < 65536) (ht : t < 65536) : Calls Try.prog 17 #[.slice (some ⟨w.heap.size, 0, none⟩) 4 4] (w.alloc (.cells #[.int .i64 16, .int .u64 1, .int .i64 16, .int .u64 (s : Int), .int .i64 16, .int .u64 (f : Int), .int .i64 16, .int .u64 (t : Int)] 47)) fun e w' => e = .returned (.tuple #[.int .u64 (nums s f t : Nat), .bool true]) ∧ Below w.heap.size w w' := by
  refine (Pack.pack_any _ 4 _ (fds_four w (n := 1) (by decide) hs hf ht)).mono ?_
  rintro e w' ⟨rfl, hb⟩
  rw [pk_nums hs hf ht]
  have hb0 := (Below.refl w.heap.size w).alloc (Nat.le_refl _) (.cells #[.int .i64 16, .int .u64 ((1 : Nat) : Int), .int .i64 16, .int .u64 (s : Int), .int .i64 16, .int .u64 (f : Int), .int .i64 16, .int .u64 (t : Int)] 47)
  exact ⟨rfl, hb0.trans (hb.mono hb0.size)⟩

theorem encode_no (w : World) (s f t c : Int) (hm : may s f t c = false) :
    Calls Try.prog 8 #[.agg #[.int .i64 s, .int .i64 f, .int .i64 t, .int .i64 c]] w fun r w' => r = .returned (.tuple #[.slice none 0 0, .int .i64 1]) ∧ Below w.heap.size w w' := by
  have HM := Lib.hid (fun w => may_any w s f t c)
  have HE := Lib.hid hm
  clear hm
  have HB := Lib.hid ((Below.refl w.heap.size w).alloc (Nat.le_refl _) (.cells #[.int .i64 s, .int .i64 f, .int .i64 t, .int .i64 c] 23))
  go_enter Try.func8, Try.ntmps8
  go_wp2_with fail
  refine (HM.out _).mono ?_
  rintro e w' ⟨rfl, hb⟩
  rw [HE.out]
  have HB1 := Lib.hid (HB.out.trans (hb.mono HB.out.size))
  clear hb
  go_wp2
  go_ret2
  exact ⟨rfl, HB1.out⟩

theorem set_nums (x : Nat) (j : Nat) (_h : j < 8) : (if j = 0 then x else ([] : List Nat)[j]?.getD 0) = [x][j]?.getD 0 := by
  match j with
  | 0 => rfl
  | j + 1 => simp
theorem set_count (x y : Nat) (j : Nat) (_h : j < 8) : (if j = 1 then y else [x][j]?.getD 0) = [x, y][j]?.getD 0 := by
  match j with
  | 0 => rfl
  | 1 => rfl
  | j + 2 => simp
theorem set_sum (x y z : Nat) (j : Nat) (h : j < 8) : (if j = 7 then z else [x, y][j]?.getD 0) = [x, y, 0, 0, 0, 0, 0, z][j]?.getD 0 := by
  have : j = 0 ∨ j = 1 ∨ j = 2 ∨ j = 3 ∨ j = 4 ∨ j = 5 ∨ j = 6 ∨ j = 7 := by omega
  rcases this with rfl | rfl | rfl | rfl | rfl | rfl | rfl | rfl <;> rfl

theorem front_crc {w : World} {g s f t c : Nat} (h : w.rowIs g 41 8 (rowOf [nums s f t, c])) (hs : s < 65536) (hf : f < 65536) (ht : t < 65536) (hc : c < 18446744073709551616) : Crc.Wds w (some ⟨g, 0, none⟩) (front s f t c) := by
  refine row_crc h (by rw [front_len]; omega) (front_u64 hs hf ht hc) ?_
  intro j hj
  have : j < 7 := hj
  have : j = 0 ∨ j = 1 ∨ j = 2 ∨ j = 3 ∨ j = 4 ∨ j = 5 ∨ j = 6 := by omega
  rcases this with rfl | rfl | rfl | rfl | rfl | rfl | rfl <;> rfl

set_option maxHeartbeats 2000000 in
set_option maxRecDepth 100000 in
theorem encode_yes (w : World) (s f t c : Nat) (hm : may s f t c = true) :
    Calls Try.prog 8 #[.agg #[.int .i64 (s : Int), .int .i64 (f : Int), .int .i64 (t : Int), .int .i64 (c : Int)]] w fun r w' => ∃ g : Nat, w.heap.size ≤ g ∧ r = .returned (.tuple #[.slice (some ⟨g, 0, none⟩) 8 8, .int .i64 0]) ∧ w'.rowIs g 41 8 (rowOf (ln s f t c)) ∧ Below w.heap.size w w' := by
  obtain ⟨h1, h2, h3, h4, h5⟩ := may_lt hm
  have HM := Lib.hid (fun w => may_any w s f t c)
  have HE := Lib.hid hm
  have HN0 := Lib.hid (fun w => field_one w)
  have HN1 := Lib.hid (fun w => field_any w s (by omega))
  have HN2 := Lib.hid (fun w => field_any w f (by omega))
  have HN3 := Lib.hid (fun w => field_any w t (by omega))
  have HP := Lib.hid (fun w => nums_any w (s := s) (f := f) (t := t) (by omega) (by omega) (by omega))
  have hs64 : s < 65536 := by omega
  have hf64 : f < 65536 := by omega
  have ht64 : t < 65536 := by omega
  have hc64 : c < 18446744073709551616 := by omega
  clear hm
  have HB := Lib.hid ((Below.refl w.heap.size w).alloc (Nat.le_refl _) (.cells #[.int .i64 (s : Int), .int .i64 (f : Int), .int .i64 (t : Int), .int .i64 (c : Int)] 23))
  have HX := Lib.hid (boxed4 w s f t c 23)
  go_enter Try.func8, Try.ntmps8
  go_wp2_with fail
  refine (HM.out _).mono ?_
  rintro e w1 ⟨rfl, hb⟩
  rw [HE.out]
  have HB1 := Lib.hid (HB.out.trans (hb.mono HB.out.size))
  have HX1 := Lib.hid (HX.out.keep hb)
  have hsz : w.heap.size < w1.heap.size := HX1.out.lt
  clear hb HX
  have hmk := run_make_row' (P := Try.prog) 25 41 _ 8 Try.underlying25 Pack.u64_info rfl .i64 .i64 8 (by omega) (by omega) w1
  rw [show ((8 : Nat) : Int) = 8 from rfl] at hmk
  have hb2 := (Below.refl w1.heap.size w1).alloc (Nat.le_refl _) (.cells (madeCells #[.int .u64 0] 8) 41)
  have HE2 := Lib.hid (show En4 w w.heap.size w.heap.size w1.heap.size s f t c [] (w1.alloc (.cells (madeCells #[.int .u64 0] 8) 41)) from ⟨HX1.out.keep hb2, row_made w1, by omega, HB1.out.trans (hb2.mono HB1.out.size), HB1.out.size⟩)
  clear hb2 HX1 HB1 HB HM HE
  go_wp2
  generalize w1.alloc (.cells (madeCells #[.int .u64 0] 8) 41) = w2 at *
  generalize hg : w1.heap.size = g at *
  clear hg hmk
  have hs2 : w.heap.size < w2.heap.size := HE2.out.box.lt
  have hc0 := HE2.out.box.c0
  have hc1 := HE2.out.box.c1
  have hc2 := HE2.out.box.c2
  go_region_held3 (fun W' => W'.cell? ⟨w.heap.size, 0, none⟩ = some (.int .i64 (s : Int)) ∧ W'.cell? ⟨w.heap.size, 1, none⟩ = some (.int .i64 (f : Int)) ∧ W'.cell? ⟨w.heap.size, 2, none⟩ = some (.int .i64 (t : Int))) (go_keep)
    (first
    | (go_at_call 18
       with_reducible refine (HN0.out _).mono ?_
       rintro e w3 ⟨rfl, hb⟩
       have HE3 := Lib.hid (HE2.out.drew.keep hb (Nat.le_of_lt HE2.out.drew.box.lt))
       have ha0 := HE3.out.box.c0
       have ha1 := HE3.out.box.c1
       have ha2 := HE3.out.box.c2
       clear hb)
    | (go_at_call 18
       with_reducible refine (HN1.out _).mono ?_
       rintro e w4 ⟨rfl, hb⟩
       have HE4 := Lib.hid (HE3.out.keep hb (Nat.le_of_lt HE3.out.box.lt))
       have hk0 := HE4.out.box.c0
       have hk1 := HE4.out.box.c1
       have hk2 := HE4.out.box.c2
       clear hb)
    | (go_at_call 18
       with_reducible refine (HN2.out _).mono ?_
       rintro e w5 ⟨rfl, hb⟩
       have HE5 := Lib.hid (HE4.out.keep hb (Nat.le_of_lt HE4.out.box.lt))
       have hl0 := HE5.out.box.c0
       have hl1 := HE5.out.box.c1
       have hl2 := HE5.out.box.c2
       clear hb)
    | (go_at_call 18
       with_reducible refine (HN3.out _).mono ?_
       rintro e w6 ⟨rfl, hb⟩
       have HE6 := Lib.hid (HE5.out.keep hb (Nat.le_of_lt HE5.out.box.lt))
       have hm0 := HE6.out.box.c0
       have hm1 := HE6.out.box.c1
       have hm2 := HE6.out.box.c2
       clear hb)
    | (go_at_call 17
       with_reducible refine (HP.out _).mono ?_
       rintro e w8 ⟨rfl, hb⟩
       have HE8 := Lib.hid (HE6.out.keep hb (Nat.le_of_lt HE6.out.box.lt))
       have hn0 := HE8.out.box.c0
       have hn1 := HE8.out.box.c1
       have hn2 := HE8.out.box.c2
       have hn3 := HE8.out.row.cell (i := 0) (by omega)
       have hn4 := HE8.out.row.frozen 0
       have HE9 := Lib.hid (HE8.out.set 0 (nums s f t) (set_nums _))
       have hq0 := HE9.out.box.c0
       have hq1 := HE9.out.box.c1
       have hq2 := HE9.out.box.c2
       clear hb))
  clear ha0 ha1 ha2 hk0 hk1 hk2 hl0 hl1 hl2 hm0 hm1 hm2 hn0 hn1 hn2 hn3 hn4 hq0 hq1 hq2 hc0 hc1 hc2 HE3 HE4 HE5 HE6 HE8 HE2 HN0 HN1 HN2 HN3 HP hs2
  generalize w8.setCell ⟨g, 0, none⟩ (.int .u64 (nums s f t : Int)) = w9 at *
  have hs9 : w.heap.size < w9.heap.size := HE9.out.box.lt
  have hc3 := HE9.out.box.c3
  have hrc := HE9.out.row.cell (i := 1) (by omega)
  have hrf := HE9.out.row.frozen 1
  have HE10 := Lib.hid (HE9.out.set 1 c (set_count _ _))
  have HC := Lib.hid (Crc.words32_any (some ⟨g, 0, none⟩) 8 (front s f t c) (front_crc HE10.out.row hs64 hf64 ht64 hc64))
  have hsl := sum_lt s f t c
  have hrc7 := HE10.out.row.cell (i := 7) (by omega)
  have hrf7 := HE10.out.row.frozen 7
  go_wp2_with fail
  refine HC.out.mono ?_
  rintro e w' ⟨rfl, rfl⟩
  rw [show Crc.S32 (Crc.wflat (front s f t c)) = sum s f t c from rfl]
  clear HC hc3 hrc hrf
  generalize w9.setCell ⟨g, 1, none⟩ (.int .u64 (c : Int)) = w10 at *
  go_wp2
  go_ret2
  have h11 := HE10.out.set 7 (sum s f t c) (set_sum _ _ _)
  exact ⟨g, h11.nN, rfl, h11.row, h11.below⟩
end Rec
end Go.Proofs.Ytamkelcgalfkcaa
