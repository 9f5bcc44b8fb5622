/- Encode, walked. -/
import Derived.Test.YthfkbfbchoekjaaSupEnc
namespace Go.Proofs.Ythfkbfbchoekjaa
open Go.RowKit Go.MapKept
namespace Sup

theorem encode_no (w : World) (n m s : Int) (hm : Geo.may n m s = false) :
    Calls Try.prog 8 #[.agg #[.int .i64 n, .int .i64 m, .int .i64 s]] w fun r w' => r = .returned (.tuple #[.slice none 0 0, .int .i64 1]) ∧ Below w.heap.size w w' := by
  have HM := Lib.hid (fun w => Geo.may_any w n m s)
  have HE := Lib.hid hm
  clear hm
  have HB := Lib.hid ((Below.refl w.heap.size w).alloc (Nat.le_refl _) (.cells #[.int .i64 n, .int .i64 m, .int .i64 s] 24))
  go_enter Try.func8, Try.ntmps8
  go_wp2_with fail
  refine (HM.out _).mono ?_
  rintro e w' ⟨rfl, hb⟩
  rw [HE.out]
  have HB1 := Lib.hid (HB.out.trans (hb.mono HB.out.size))
  clear hb
  go_wp2
  go_ret2
  exact ⟨rfl, HB1.out⟩

set_option maxHeartbeats 2000000 in
set_option maxRecDepth 100000 in
theorem encode_yes (w : World) (n m s : Nat) (hm : Geo.may n m s = true) :
    Calls Try.prog 8 #[.agg #[.int .i64 (n : Int), .int .i64 (m : Int), .int .i64 (s : Int)]] w fun r w' => ∃ g : Nat, w.heap.size ≤ g ∧ r = .returned (.tuple #[.slice (some ⟨g, 0, none⟩) 8 8, .int .i64 0]) ∧ w'.rowIs g 39 8 (rowOf (sb n m s)) ∧ Below w.heap.size w w' := by
  obtain ⟨h1, h2, h3⟩ := may_lt hm
  have HM := Lib.hid (fun w => Geo.may_any w n m s)
  have HE := Lib.hid hm
  clear hm
  have HN1 := Lib.hid (fun w => number_any w n h1)
  have HN2 := Lib.hid (fun w => number_any w m h2)
  have HN3 := Lib.hid (fun w => number_any w s h3)
  have HP := Lib.hid (fun w => nums_any w h1 h2 h3)
  have HT := Lib.hid txt_any
  have HB := Lib.hid ((Below.refl w.heap.size w).alloc (Nat.le_refl _) (.cells #[.int .i64 (n : Int), .int .i64 (m : Int), .int .i64 (s : Int)] 24))
  have HX := Lib.hid (Geo.boxed w n m s 24)
  go_enter Try.func8, Try.ntmps8
  go_wp2_with fail
  refine (HM.out _).mono ?_
  rintro e w1 ⟨rfl, hb⟩
  rw [HE.out]
  have HB1 := Lib.hid (HB.out.trans (hb.mono HB.out.size))
  have HX1 := Lib.hid (HX.out.keep hb)
  have hsz : w.heap.size < w1.heap.size := HX1.out.lt
  clear hb HX
  -- the words' memory
  have hmk := run_make_row' (P := Try.prog) 25 39 _ 8 Try.underlying25 Pack.u64_info rfl .i64 .i64 8 (by omega) (by omega) w1
  rw [show ((8 : Nat) : Int) = 8 from rfl] at hmk
  have hrow : (w1.alloc (.cells (madeCells #[.int .u64 0] 8) 39)).rowIs w1.heap.size 39 8 (rowOf []) := (World.rowIs_made w1 (.int .u64 0) 8 39).congr (fun i _ => by simp [rowOf])
  have hb2 := (Below.refl w1.heap.size w1).alloc (Nat.le_refl _) (.cells (madeCells #[.int .u64 0] 8) 39)
  have HE2 := Lib.hid (show En w w.heap.size w.heap.size w1.heap.size n m s [] (w1.alloc (.cells (madeCells #[.int .u64 0] 8) 39)) from ⟨HX1.out.keep hb2, hrow, by omega, HB1.out.trans (hb2.mono HB1.out.size), HB1.out.size⟩)
  clear hrow hb2 HX1 HB1 HB HM HE
  generalize w1.alloc (.cells (madeCells #[.int .u64 0] 8) 39) = w2 at *
  generalize hg : w1.heap.size = g at *
  clear hg
  have hs2 : w.heap.size < w2.heap.size := HE2.out.box.lt
  have hcv := Crc.conv_new w2 #[.int .u8 67, .int .u8 65, .int .u8 78, .int .u8 84, .int .u8 76, .int .u8 69, .int .u8 48, .int .u8 49] 8 8
  go_wp2_with fail
  refine (HT.out _).mono ?_
  rintro e w3 ⟨b, o, gc, rfl, hc, hb⟩
  have HE3 := Lib.hid (HE2.out.keep hb (by omega))
  have hs3 : w.heap.size < w3.heap.size := HE3.out.box.lt
  have hrc := HE3.out.row.cell (i := 0) (by omega)
  have hrf := HE3.out.row.frozen 0
  clear hb hcv hs2 HE2 hmk
  go_wp2
  have HE4 := Lib.hid (HE3.out.set 0 magic set_magic)
  clear hrc hrf hs3 HE3
  generalize w3.setCell ⟨g, 0, none⟩ (.int .u64 (magic : Int)) = w4 at *
  have hs4 : w.heap.size < w4.heap.size := HE4.out.box.lt
  have HS4 := Lib.hid hs4
  have hc0 := HE4.out.box.c0
  have hc1 := HE4.out.box.c1
  have hc2 := HE4.out.box.c2
  clear hc
  go_region_held3 (fun W' => W'.cell? ⟨w.heap.size, 0, none⟩ = some (.int .i64 (n : Int)) ∧ W'.cell? ⟨w.heap.size, 1, none⟩ = some (.int .i64 (m : Int)) ∧ W'.cell? ⟨w.heap.size, 2, none⟩ = some (.int .i64 (s : Int))) (go_keep)
    (first
    | (go_at_call 24
       with_reducible refine (HN1.out _).mono ?_
       rintro e w5 ⟨rfl, hb⟩
       have HE5 := Lib.hid (HE4.out.drew.keep hb (Nat.le_of_lt HE4.out.drew.box.lt))
       have hk0 := HE5.out.box.c0
       have hk1 := HE5.out.box.c1
       have hk2 := HE5.out.box.c2
       clear hb)
    | (go_at_call 24
       with_reducible refine (HN2.out _).mono ?_
       rintro e w6 ⟨rfl, hb⟩
       have HE6 := Lib.hid (HE5.out.keep hb (Nat.le_of_lt HE5.out.box.lt))
       have hl0 := HE6.out.box.c0
       have hl1 := HE6.out.box.c1
       have hl2 := HE6.out.box.c2
       clear hb)
    | (go_at_call 24
       with_reducible refine (HN3.out _).mono ?_
       rintro e w7 ⟨rfl, hb⟩
       have HE7 := Lib.hid (HE6.out.keep hb (Nat.le_of_lt HE6.out.box.lt))
       have hm0 := HE7.out.box.c0
       have hm1 := HE7.out.box.c1
       have hm2 := HE7.out.box.c2
       clear hb)
    | (go_at_call 23
       with_reducible refine (HP.out _).mono ?_
       rintro e w8 ⟨rfl, hb⟩
       have HE8 := Lib.hid (HE7.out.keep hb (Nat.le_of_lt HE7.out.box.lt))
       have hn0 := HE8.out.box.c0
       have hn1 := HE8.out.box.c1
       have hn2 := HE8.out.box.c2
       have hn3 := HE8.out.row.cell (i := 1) (by omega)
       have hn4 := HE8.out.row.frozen 1
       have HE9 := Lib.hid (HE8.out.set 1 (nums n m s) (set_nums _))
       have hq0 := HE9.out.box.c0
       have hq1 := HE9.out.box.c1
       have hq2 := HE9.out.box.c2
       clear hb))
  clear hk0 hk1 hk2 hl0 hl1 hl2 hm0 hm1 hm2 hn0 hn1 hn2 hn3 hn4 hq0 hq1 hq2 hc0 hc1 hc2 HE5 HE6 HE7 HE8 HE4 HN1 HN2 HN3 HP HT
  generalize w8.setCell ⟨g, 1, none⟩ (.int .u64 (nums n m s : Int)) = w9 at *
  have HC := Lib.hid (Crc.words32_any (some ⟨g, 0, none⟩) 8 (front n m s) (front_crc HE9.out.row h1 h2 h3))
  have hsl := sum_lt n m s
  have hrc := HE9.out.row.cell (i := 7) (by omega)
  have hrf := HE9.out.row.frozen 7
  go_wp2_with fail
  refine HC.out.mono ?_
  rintro e w' ⟨rfl, rfl⟩
  rw [show Crc.S32 (Crc.wflat (front n m s)) = sum n m s from rfl]
  go_wp2
  go_ret2
  have h10 := HE9.out.set 7 (sum n m s) (set_sum _ _)
  exact ⟨g, h10.nN, rfl, h10.row, h10.below⟩
end Sup
end Go.Proofs.Ythfkbfbchoekjaa
