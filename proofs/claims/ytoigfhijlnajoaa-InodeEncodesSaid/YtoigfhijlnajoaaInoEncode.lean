/- The program's line of an inode: Encode, walked. -/
import Derived.Test.YtoigfhijlnajoaaInoMay
namespace Go.Proofs.Ytoigfhijlnajoaa
open Go.RowKit Go.MapKept
namespace Ino
open Lin

theorem field_any (w : World) (n : Nat) (h : n < 65536) :
    Calls Try.prog 19 #[.int .i64 (n : Int)] w fun r w' => r = .returned (.agg #[.int .i64 16, .int .u64 (n : Int)]) ∧ Below w.heap.size w w' := by
  go_enter Try.func19, Try.ntmps19
  go_wp2
  refine bodyPost_ret (v := .agg #[.int .i64 16, .int .u64 (n : Int)]) ?_ rfl ⟨rfl, ?_⟩
  · simp [results, Try.results19, go_sem]
  · first
    | exact (Below.refl _ _).alloc (Nat.le_refl _) _
    | exact (((Below.refl _ _).alloc (Nat.le_refl _) _).setCell (by simp) _).setCell (by simp) _

theorem nums_any (w : World) {n m : Nat} (hn : n < 65536) (hm : m < 65536) : Calls Try.prog 18 #[.slice (some ⟨w.heap.size, 0, none⟩) 2 2] (w.alloc (.cells #[.int .i64 16, .int .u64 (n : Int), .int .i64 16, .int .u64 (m : Int)] 51)) fun e w' => e = .returned (.tuple #[.int .u64 (nums n m : Nat), .bool true]) ∧ Below w.heap.size w w' := by
  refine (Pack.pack_any _ 2 _ (fds_two w hn hm)).mono ?_
  rintro e w' ⟨rfl, hb⟩
  rw [pk_nums hn hm]
  have hb0 := (Below.refl w.heap.size w).alloc (Nat.le_refl _) (.cells #[.int .i64 16, .int .u64 (n : Int), .int .i64 16, .int .u64 (m : Int)] 51)
  exact ⟨rfl, hb0.trans (hb.mono hb0.size)⟩

theorem encode_no (w : World) (k h s : Int) (hm : may k h s = false) :
    Calls Try.prog 8 #[.agg #[.int .i64 k, .int .i64 h, .int .i64 s]] w fun r w' => r = .returned (.tuple #[.slice none 0 0, .int .i64 1]) ∧ Below w.heap.size w w' := by
  have HM := Lib.hid (fun w => may_any w k h s)
  have HE := Lib.hid hm
  clear hm
  have HB := Lib.hid ((Below.refl w.heap.size w).alloc (Nat.le_refl _) (.cells #[.int .i64 k, .int .i64 h, .int .i64 s] 24))
  go_enter Try.func8, Try.ntmps8
  go_wp2_with fail
  refine (HM.out _).mono ?_
  rintro e w' ⟨rfl, hb⟩
  rw [HE.out]
  have HB1 := Lib.hid (HB.out.trans (hb.mono HB.out.size))
  clear hb
  go_wp2
  go_ret2
  exact ⟨rfl, HB1.out⟩

theorem set_nums (x : Nat) (j : Nat) (_h : j < 8) : (if j = 0 then x else ([] : List Nat)[j]?.getD 0) = [x][j]?.getD 0 := by
  match j with
  | 0 => rfl
  | j + 1 => simp
theorem set_size (x y : Nat) (j : Nat) (_h : j < 8) : (if j = 1 then y else [x][j]?.getD 0) = [x, y][j]?.getD 0 := by
  match j with
  | 0 => rfl
  | 1 => rfl
  | j + 2 => simp
theorem set_sum (x y z : Nat) (j : Nat) (h : j < 8) : (if j = 7 then z else [x, y][j]?.getD 0) = [x, y, 0, 0, 0, 0, 0, z][j]?.getD 0 := by
  have : j = 0 ∨ j = 1 ∨ j = 2 ∨ j = 3 ∨ j = 4 ∨ j = 5 ∨ j = 6 ∨ j = 7 := by omega
  rcases this with rfl | rfl | rfl | rfl | rfl | rfl | rfl | rfl <;> rfl

theorem front_crc {w : World} {g k p s : Nat} (h : w.rowIs g 45 8 (rowOf [nums k p, s])) (hk : k < 65536) (hp : p < 65536) (hs : s < 18446744073709551616) : Crc.Wds w (some ⟨g, 0, none⟩) (front k p s) := by
  refine row_crc h (by rw [front_len]; omega) (front_u64 hk hp hs) ?_
  intro j hj
  have : j < 7 := hj
  have : j = 0 ∨ j = 1 ∨ j = 2 ∨ j = 3 ∨ j = 4 ∨ j = 5 ∨ j = 6 := by omega
  rcases this with rfl | rfl | rfl | rfl | rfl | rfl | rfl <;> rfl

set_option maxHeartbeats 2000000 in
theorem encode_free (w : World) :
    Calls Try.prog 8 #[.agg #[.int .i64 0, .int .i64 (-1), .int .i64 0]] w fun r w' => ∃ g : Nat, w.heap.size ≤ g ∧ r = .returned (.tuple #[.slice (some ⟨g, 0, none⟩) 8 8, .int .i64 0]) ∧ w'.rowIs g 45 8 (rowOf zero) ∧ Below w.heap.size w w' := by
  have HM := Lib.hid (fun w => may_any w 0 (-1) 0)
  have HE := Lib.hid (show may 0 (-1) 0 = true by decide)
  have HN := Lib.hid none_any
  have HB := Lib.hid ((Below.refl w.heap.size w).alloc (Nat.le_refl _) (.cells #[.int .i64 0, .int .i64 (-1), .int .i64 0] 24))
  have HX := Lib.hid (boxed w 0 (-1) 0 24)
  go_enter Try.func8, Try.ntmps8
  go_wp2_with fail
  refine (HM.out _).mono ?_
  rintro e w1 ⟨rfl, hb⟩
  rw [HE.out]
  have HB1 := Lib.hid (HB.out.trans (hb.mono HB.out.size))
  have HX1 := Lib.hid (HX.out.keep hb)
  have hsz : w.heap.size < w1.heap.size := HX1.out.lt
  clear hb HX
  have hmk := run_make_row' (P := Try.prog) 26 45 _ 8 Try.underlying26 Pack.u64_info rfl .i64 .i64 8 (by omega) (by omega) w1
  rw [show ((8 : Nat) : Int) = 8 from rfl] at hmk
  have hb2 := (Below.refl w1.heap.size w1).alloc (Nat.le_refl _) (.cells (madeCells #[.int .u64 0] 8) 45)
  have HE2 := Lib.hid (show En w w.heap.size w.heap.size w1.heap.size 0 (-1) 0 [] (w1.alloc (.cells (madeCells #[.int .u64 0] 8) 45)) from ⟨HX1.out.keep hb2, row_made w1, by omega, HB1.out.trans (hb2.mono HB1.out.size), HB1.out.size⟩)
  clear hb2 HX1 HB1 HB HM HE
  go_wp2
  generalize w1.alloc (.cells (madeCells #[.int .u64 0] 8) 45) = w2 at *
  generalize hg : w1.heap.size = g at *
  clear hg hmk
  have hs2 : w.heap.size < w2.heap.size := HE2.out.box.lt
  have hc0 := HE2.out.box.c0
  have hc1 := HE2.out.box.c1
  have hc2 := HE2.out.box.c2
  go_region_held3 (fun W' => W'.cell? ⟨w.heap.size, 0, none⟩ = some (.int .i64 0) ∧ W'.cell? ⟨w.heap.size, 1, none⟩ = some (.int .i64 (-1)) ∧ W'.cell? ⟨w.heap.size, 2, none⟩ = some (.int .i64 0)) (go_keep)
    (first
    | (go_at_call 15
       with_reducible refine (HN.out _).mono ?_
       rintro e w3 ⟨rfl, hb⟩
       have HE3 := Lib.hid (HE2.out.drew.keep hb (Nat.le_of_lt HE2.out.drew.box.lt))
       have hk0 := HE3.out.box.c0
       have hk1 := HE3.out.box.c1
       have hk2 := HE3.out.box.c2
       clear hb))
  go_wp2
  go_ret2
  exact ⟨g, HE3.out.nN, rfl, row_zero HE3.out.row, HE3.out.below⟩

set_option maxHeartbeats 2000000 in
set_option maxRecDepth 100000 in
theorem encode_full (w : World) (k p s : Nat) (h : Int) (hh : h = (p : Int) - 1) (hk0 : k ≠ 0) (hm : may k ((p : Int) - 1) s = true) :
    Calls Try.prog 8 #[.agg #[.int .i64 (k : Int), .int .i64 h, .int .i64 (s : Int)]] w fun r w' => ∃ g : Nat, w.heap.size ≤ g ∧ r = .returned (.tuple #[.slice (some ⟨g, 0, none⟩) 8 8, .int .i64 0]) ∧ w'.rowIs g 45 8 (rowOf (full k p s)) ∧ Below w.heap.size w w' := by
  obtain ⟨h1, h2, h3⟩ := may_lt hm
  have HM := Lib.hid (fun w => may_any w k h s)
  have HE := Lib.hid (show may k h s = true by rw [hh]; exact hm)
  have HNN := Lib.hid none_any
  have HN1 := Lib.hid (fun w => field_any w k (by omega))
  have HN2 := Lib.hid (fun w => field_any w p (by omega))
  have HP := Lib.hid (fun w => nums_any w (n := k) (m := p) (by omega) (by omega))
  have HW := Lib.hid (show IntKind.i64.wrap (h + 1) = (p : Int) by rw [IntKind.wrap_i64]; omega)
  have hki : ¬ (k : Int) = 0 := by omega
  have hs64 : s < 18446744073709551616 := by omega
  have hk64 : k < 65536 := by omega
  have hp64 : p < 65536 := by omega
  clear hm hh
  have HB := Lib.hid ((Below.refl w.heap.size w).alloc (Nat.le_refl _) (.cells #[.int .i64 (k : Int), .int .i64 h, .int .i64 (s : Int)] 24))
  have HX := Lib.hid (boxed w k h s 24)
  go_enter Try.func8, Try.ntmps8
  go_wp2_with fail
  refine (HM.out _).mono ?_
  rintro e w1 ⟨rfl, hb⟩
  rw [HE.out]
  have HB1 := Lib.hid (HB.out.trans (hb.mono HB.out.size))
  have HX1 := Lib.hid (HX.out.keep hb)
  have hsz : w.heap.size < w1.heap.size := HX1.out.lt
  clear hb HX
  have hmk := run_make_row' (P := Try.prog) 26 45 _ 8 Try.underlying26 Pack.u64_info rfl .i64 .i64 8 (by omega) (by omega) w1
  rw [show ((8 : Nat) : Int) = 8 from rfl] at hmk
  have hb2 := (Below.refl w1.heap.size w1).alloc (Nat.le_refl _) (.cells (madeCells #[.int .u64 0] 8) 45)
  have HE2 := Lib.hid (show En w w.heap.size w.heap.size w1.heap.size k h s [] (w1.alloc (.cells (madeCells #[.int .u64 0] 8) 45)) from ⟨HX1.out.keep hb2, row_made w1, by omega, HB1.out.trans (hb2.mono HB1.out.size), HB1.out.size⟩)
  clear hb2 HX1 HB1 HB HM HE
  go_wp2
  generalize w1.alloc (.cells (madeCells #[.int .u64 0] 8) 45) = w2 at *
  generalize hg : w1.heap.size = g at *
  clear hg hmk
  have hs2 : w.heap.size < w2.heap.size := HE2.out.box.lt
  have hc0 := HE2.out.box.c0
  have hc1 := HE2.out.box.c1
  have hc2 := HE2.out.box.c2
  go_region_held3 (fun W' => W'.cell? ⟨w.heap.size, 0, none⟩ = some (.int .i64 (k : Int)) ∧ W'.cell? ⟨w.heap.size, 1, none⟩ = some (.int .i64 h) ∧ W'.cell? ⟨w.heap.size, 2, none⟩ = some (.int .i64 (s : Int))) (go_keep)
    (first
    | (go_at_call 15
       with_reducible refine (HNN.out _).mono ?_
       rintro e w3 ⟨rfl, hb⟩
       have HE3 := Lib.hid (HE2.out.drew.keep hb (Nat.le_of_lt HE2.out.drew.box.lt))
       have hk0 := HE3.out.box.c0
       have hk1 := HE3.out.box.c1
       have hk2 := HE3.out.box.c2
       clear hb))
  clear hc0 hc1 hc2 hk0 hk1 hk2 HE2 HNN hs2
  go_wp2
  have hs4 : w.heap.size < w3.heap.size := HE3.out.box.lt
  have hc0 := HE3.out.box.c0
  have hc1 := HE3.out.box.c1
  have hc2 := HE3.out.box.c2
  have hw := HW.out
  go_region_held3 (fun W' => W'.cell? ⟨w.heap.size, 0, none⟩ = some (.int .i64 (k : Int)) ∧ W'.cell? ⟨w.heap.size, 1, none⟩ = some (.int .i64 h) ∧ W'.cell? ⟨w.heap.size, 2, none⟩ = some (.int .i64 (s : Int))) (go_keep)
    (first
    | (go_at_call 19
       with_reducible refine (HN1.out _).mono ?_
       rintro e w5 ⟨rfl, hb⟩
       have HE5 := Lib.hid (HE3.out.drew.keep hb (Nat.le_of_lt HE3.out.drew.box.lt))
       have hk0 := HE5.out.box.c0
       have hk1 := HE5.out.box.c1
       have hk2 := HE5.out.box.c2
       clear hb)
    | (go_at_call 19
       with_reducible refine (HN2.out _).mono ?_
       rintro e w6 ⟨rfl, hb⟩
       have HE6 := Lib.hid (HE5.out.keep hb (Nat.le_of_lt HE5.out.box.lt))
       have hl0 := HE6.out.box.c0
       have hl1 := HE6.out.box.c1
       have hl2 := HE6.out.box.c2
       clear hb)
    | (go_at_call 18
       with_reducible refine (HP.out _).mono ?_
       rintro e w8 ⟨rfl, hb⟩
       have HE8 := Lib.hid (HE6.out.keep hb (Nat.le_of_lt HE6.out.box.lt))
       have hn0 := HE8.out.box.c0
       have hn1 := HE8.out.box.c1
       have hn2 := HE8.out.box.c2
       have hn3 := HE8.out.row.cell (i := 0) (by omega)
       have hn4 := HE8.out.row.frozen 0
       have HE9 := Lib.hid (HE8.out.set 0 (nums k p) (set_nums _))
       have hq0 := HE9.out.box.c0
       have hq1 := HE9.out.box.c1
       have hq2 := HE9.out.box.c2
       clear hb))
  clear hk0 hk1 hk2 hl0 hl1 hl2 hn0 hn1 hn2 hn3 hn4 hq0 hq1 hq2 hc0 hc1 hc2 HE5 HE6 HE8 HE3 HN1 HN2 HP hw hs4
  generalize w8.setCell ⟨g, 0, none⟩ (.int .u64 (nums k p : Int)) = w9 at *
  have hs9 : w.heap.size < w9.heap.size := HE9.out.box.lt
  have hc2 := HE9.out.box.c2
  have hrc := HE9.out.row.cell (i := 1) (by omega)
  have hrf := HE9.out.row.frozen 1
  have HE10 := Lib.hid (HE9.out.set 1 s (set_size _ _))
  have HC := Lib.hid (Crc.words32_any (some ⟨g, 0, none⟩) 8 (front k p s) (front_crc HE10.out.row hk64 hp64 hs64))
  have hsl := sum_lt k p s
  have hrc7 := HE10.out.row.cell (i := 7) (by omega)
  have hrf7 := HE10.out.row.frozen 7
  go_wp2_with fail
  refine HC.out.mono ?_
  rintro e w' ⟨rfl, rfl⟩
  rw [show Crc.S32 (Crc.wflat (front k p s)) = sum k p s from rfl]
  clear HC hc2 hrc hrf
  generalize w9.setCell ⟨g, 1, none⟩ (.int .u64 (s : Int)) = w10 at *
  go_wp2
  go_ret2
  have h11 := HE10.out.set 7 (sum k p s) (set_sum _ _ _)
  exact ⟨g, h11.nN, rfl, h11.row, h11.below⟩

theorem encode_yes (w : World) (k p s : Nat) (h : Int) (hh : h = (p : Int) - 1) (hm : may k ((p : Int) - 1) s = true) :
    Calls Try.prog 8 #[.agg #[.int .i64 (k : Int), .int .i64 h, .int .i64 (s : Int)]] w fun r w' => ∃ g : Nat, w.heap.size ≤ g ∧ r = .returned (.tuple #[.slice (some ⟨g, 0, none⟩) 8 8, .int .i64 0]) ∧ w'.rowIs g 45 8 (rowOf (ln k p s)) ∧ Below w.heap.size w w' := by
  by_cases hk : k = 0
  · subst hk
    obtain ⟨rfl, rfl⟩ := may_free hm
    subst hh
    rw [ln_zero]
    exact encode_free w
  · rw [ln_full hk]
    exact encode_full w k p s h hh hk hm
end Ino
end Go.Proofs.Ytoigfhijlnajoaa
