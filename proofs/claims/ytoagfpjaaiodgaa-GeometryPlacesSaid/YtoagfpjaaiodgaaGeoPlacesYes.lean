/- GeometryPlaces, walked where the geometry may be. -/
import Derived.Test.YtoagfpjaaiodgaaGeoPlacesNo
namespace Go.Proofs.Ytoagfpjaaiodgaa
open Go.RowKit Go.MapKept
namespace Geo

set_option maxHeartbeats 8000000 in
set_option maxRecDepth 100000 in
theorem places_yes (w : World) (n m s i V1 V2 V3 V4 V5 : Int) (hm : may n m s = true)
    (e1 : plc n m s i m 16 8 = V1) (e2 : plc n m s i n (16 + m * 8) 1 = V2) (e3 : plc n m s i n (bkAt n m) (s / 8) = V3) (e4 : isf n m s i (bmAt n m + i / 64) (-1) = V4) (e5 : isf n m s i (i % 64) 0 = V5)
    (hi : I64 i)
    (f0 : ¬ (0 ≤ i ∧ i < 65534) → V1 = -1 ∧ V2 = -1 ∧ V3 = -1 ∧ V4 = -1 ∧ V5 = 0)
    (f1 : inn (16 + 8 * i) i m = V1) (f2 : inn (16 + m * 8 + i) i n = V2) (f3 : inn (bkAt n m + i * (s / 8)) i n = V3) (f4 : inn (bmAt n m + i / 64) i n = V4)
    (f5 : 0 ≤ i → i < n → V5 = i % 64) (f6 : n ≤ i → V5 = 0) :
    Calls Try.prog 3 #[.int .i64 n, .int .i64 m, .int .i64 s, .int .i64 i] w fun r w' => r = .returned (.bool true) ∧ Below w.heap.size w w' := by
  obtain ⟨⟨hn, hmm, hs⟩, hfin⟩ := may_num hm
  have hsb := hs.bounds
  have hbm := bm_bounds hn hmm
  have hbk := bk_bounds hn hmm
  have HL := Lib.hid (lives_any w)
  have C8 : Hid (∀ w, Calls Try.prog 8 #[.int .i64 n, .int .i64 m, .int .i64 s] w fun r w' => r = .returned (.tuple #[.agg #[.int .i64 16, .int .i64 (16 + m * 8), .int .i64 (bmAt n m), .int .i64 (bkAt n m), .int .i64 (fin n m s)], .bool true]) ∧ Below w.heap.size w w') := Lib.hid (fun w => by
    have := of_any w n m s; rwa [parts_yes hm, hm] at this)
  have C9 : Hid (∀ w, Calls Try.prog 9 #[.agg #[.int .i64 n, .int .i64 m, .int .i64 s], .int .i64 i] w fun r w' => r = .returned (.tuple #[.int .i64 V4, .int .i64 V5]) ∧ Below w.heap.size w w') := Lib.hid (fun w => by
    have := bit_any w n m s i; rwa [e4, e5] at this)
  have C10 : Hid (∀ w, Calls Try.prog 10 #[.agg #[.int .i64 n, .int .i64 m, .int .i64 s]] w fun r w' => r = .returned (.tuple #[.int .i64 (bmAt n m), .int .i64 ((n + 63) / 64)]) ∧ Below w.heap.size w w') := Lib.hid (fun w => by
    have := bitmap_any w n m s; rwa [iff_yes hm, iff_yes hm] at this)
  have C11 : Hid (∀ w, Calls Try.prog 11 #[.agg #[.int .i64 n, .int .i64 m, .int .i64 s]] w fun r w' => r = .returned (.bool true) ∧ Below w.heap.size w w') := Lib.hid (fun w => by
    have := may_any w n m s; rwa [hm] at this)
  have C12 : Hid (∀ w, Calls Try.prog 12 #[.agg #[.int .i64 n, .int .i64 m, .int .i64 s]] w fun r w' => r = .returned (.int .i64 (fin n m s)) ∧ Below w.heap.size w w') := Lib.hid (fun w => by
    have := words_any w n m s; rwa [iff_yes hm] at this)
  have C13 : Hid (∀ w, Calls Try.prog 13 #[.agg #[.int .i64 n, .int .i64 m, .int .i64 s]] w fun r w' => r = .returned (.int .i64 0) ∧ Below w.heap.size w w') := Lib.hid (fun w => by
    have := super_any w n m s; rwa [plc_yes hm (by decide) (by decide)] at this)
  have C14 : Hid (∀ w, Calls Try.prog 14 #[.agg #[.int .i64 n, .int .i64 m, .int .i64 s]] w fun r w' => r = .returned (.int .i64 8) ∧ Below w.heap.size w w') := Lib.hid (fun w => by
    have := record_any w n m s; rwa [plc_yes hm (by decide) (by decide)] at this)
  have C15 : Hid (∀ w, Calls Try.prog 15 #[.agg #[.int .i64 n, .int .i64 m, .int .i64 s], .int .i64 i] w fun r w' => r = .returned (.int .i64 V1) ∧ Below w.heap.size w w') := Lib.hid (fun w => by
    have := inode_any w n m s i; rwa [e1] at this)
  have C16 : Hid (∀ w, Calls Try.prog 16 #[.agg #[.int .i64 n, .int .i64 m, .int .i64 s], .int .i64 i] w fun r w' => r = .returned (.int .i64 V2) ∧ Below w.heap.size w w') := Lib.hid (fun w => by
    have := slot_any w n m s i; rwa [e2] at this)
  have C17 : Hid (∀ w, Calls Try.prog 17 #[.agg #[.int .i64 n, .int .i64 m, .int .i64 s], .int .i64 i] w fun r w' => r = .returned (.int .i64 V3) ∧ Below w.heap.size w w') := Lib.hid (fun w => by
    have := block_any w n m s i (by unfold I64; omega) (by unfold I64; omega); rwa [e3] at this)
  have C18 : Hid (∀ w, Calls Try.prog 18 #[.agg #[.int .i64 n, .int .i64 m, .int .i64 s]] w fun r w' => r = .returned (.int .i64 (s / 8)) ∧ Below w.heap.size w w') := Lib.hid (fun w => by
    have := each_any w n m s; rwa [iff_yes hm] at this)
  have I1 : Hid (∀ w, Calls Try.prog 20 #[.int .i64 (16 + 8 * i), .int .i64 i, .int .i64 m] w fun r w' => r = .returned (.int .i64 V1) ∧ w = w') := Lib.hid (fun w => by
    have := in_any w (16 + 8 * i) i m; rwa [f1] at this)
  have I2 : Hid (∀ w, Calls Try.prog 20 #[.int .i64 (16 + m * 8 + i), .int .i64 i, .int .i64 n] w fun r w' => r = .returned (.int .i64 V2) ∧ w = w') := Lib.hid (fun w => by
    have := in_any w (16 + m * 8 + i) i n; rwa [f2] at this)
  have I3 : Hid (∀ w, Calls Try.prog 20 #[.int .i64 (bkAt n m + i * (s / 8)), .int .i64 i, .int .i64 n] w fun r w' => r = .returned (.int .i64 V3) ∧ w = w') := Lib.hid (fun w => by
    have := in_any w (bkAt n m + i * (s / 8)) i n; rwa [f3] at this)
  have I4 : Hid (∀ w, Calls Try.prog 20 #[.int .i64 (bmAt n m + i / 64), .int .i64 i, .int .i64 n] w fun r w' => r = .returned (.int .i64 V4) ∧ w = w') := Lib.hid (fun w => by
    have := in_any w (bmAt n m + i / 64) i n; rwa [f4] at this)
  obtain ⟨n1, n2⟩ := hn
  obtain ⟨m1, m2⟩ := hmm
  have s1 : 64 ≤ s := hsb.1
  have s2 : s ≤ 4096 := hsb.2.1
  have a1 : 0 ≤ bmAt n m := by omega
  have a2 : bmAt n m ≤ 600000 := by omega
  have a3 : 0 ≤ bkAt n m := by omega
  have a4 : bkAt n m ≤ 610000 := by omega
  have W1 := Lib.hid (show IntKind.i64.wrap (n + 63) = n + 63 from IntWalk.i64_in _ (by omega))
  have W2 := Lib.hid (show IntKind.i64.wrap ((n + 63).tdiv 64) = (n + 63) / 64 from IntWalk.i64_quo _ _ (by omega))
  have W3 := Lib.hid (show IntKind.i64.wrap (s.tdiv 8) = s / 8 from IntWalk.i64_quo _ _ (by omega))
  have F0 := Lib.hid f0
  have F5 := Lib.hid f5
  have F6 := Lib.hid f6
  obtain ⟨hi1, hi2⟩ := hi
  clear hm e1 e2 e3 e4 e5 f0 f1 f2 f3 f4 f5 f6 hsb hbm hbk hs
  go_enter Try.func3, Try.ntmps3
  go_wp2_with fail
  refine HL.out.mono ?_
  rintro e w1 ⟨rfl, hb⟩
  have HB1 := Lib.hid (hb.alloc hb.size (.cells #[.int .i64 n, .int .i64 m, .int .i64 s] 24))
  have HX1 := Lib.hid (boxed w1 n m s 24)
  clear hb HL
  go_wp2_with fail
  refine (C8.out _).mono ?_
  rintro e w2 ⟨rfl, hb⟩
  have h2 := HB1.out.trans (hb.mono HB1.out.size)
  have HB2 := Lib.hid (h2.alloc h2.size (.cells #[.int .i64 16, .int .i64 (16 + m * 8), .int .i64 (bmAt n m), .int .i64 (bkAt n m), .int .i64 (fin n m s)] 26))
  have HX2 := Lib.hid ((HX1.out.keep hb).alloc (.cells #[.int .i64 16, .int .i64 (16 + m * 8), .int .i64 (bmAt n m), .int .i64 (bkAt n m), .int .i64 (fin n m s)] 26))
  have HP2 := Lib.hid (parted w2 16 (16 + m * 8) (bmAt n m) (bkAt n m) (fin n m s) 26)
  clear hb h2 C8 HB1 HX1
  generalize w1.heap.size = b at *
  have hc0 := HX2.out.c0
  have hc1 := HX2.out.c1
  have hc2 := HX2.out.c2
  go_wp2_with fail
  refine (C9.out _).mono ?_
  rintro e w3 ⟨rfl, hb⟩
  have HB3 := Lib.hid (HB2.out.trans (hb.mono HB2.out.size))
  have HX3 := Lib.hid (HX2.out.keep hb)
  have HP3 := Lib.hid (HP2.out.keep hb)
  clear hb hc0 hc1 hc2
  have hc0 := HX3.out.c0
  have hc1 := HX3.out.c1
  have hc2 := HX3.out.c2
  clear C9 HB2 HX2 HP2
  go_wp2_with fail
  refine (C10.out _).mono ?_
  rintro e w4 ⟨rfl, hb⟩
  have HB4 := Lib.hid (HB3.out.trans (hb.mono HB3.out.size))
  have HX4 := Lib.hid (HX3.out.keep hb)
  have HP4 := Lib.hid (HP3.out.keep hb)
  clear hb hc0 hc1 hc2
  have hc0 := HX4.out.c0
  have hc1 := HX4.out.c1
  have hc2 := HX4.out.c2
  clear C10 HB3 HX3 HP3
  go_wp2_with fail
  refine (C11.out _).mono ?_
  rintro e w5 ⟨rfl, hb⟩
  have HB5 := Lib.hid (HB4.out.trans (hb.mono HB4.out.size))
  have HX5 := Lib.hid (HX4.out.keep hb)
  have HP5 := Lib.hid (HP4.out.keep hb)
  clear hb hc0 hc1 hc2
  have hc0 := HX5.out.c0
  have hc1 := HX5.out.c1
  have hc2 := HX5.out.c2
  clear C11 HB4 HX4 HP4
  generalize w2.heap.size = d at *
  have hd0 := HP5.out.c0
  have hd1 := HP5.out.c1
  have hd2 := HP5.out.c2
  have hd3 := HP5.out.c3
  have hd4 := HP5.out.c4
  have q1 := W1.out
  have q2 := W2.out
  have q3 := W3.out
  go_wp2
  go_region_held3 (fun W' => W'.cell? ⟨b, 0, none⟩ = some (.int .i64 n) ∧ W'.cell? ⟨b, 1, none⟩ = some (.int .i64 m) ∧ W'.cell? ⟨b, 2, none⟩ = some (.int .i64 s) ∧ W'.cell? ⟨d, 0, none⟩ = some (.int .i64 16) ∧ W'.cell? ⟨d, 1, none⟩ = some (.int .i64 (16 + m * 8)) ∧ W'.cell? ⟨d, 2, none⟩ = some (.int .i64 (bmAt n m)) ∧ W'.cell? ⟨d, 3, none⟩ = some (.int .i64 (bkAt n m)) ∧ W'.cell? ⟨d, 4, none⟩ = some (.int .i64 (fin n m s))) (first | exact ⟨hc0, hc1, hc2, hd0, hd1, hd2, hd3, hd4⟩ | exact ⟨hx60, hx61, hx62, hp60, hp61, hp62, hp63, hp64⟩ | exact ⟨hx70, hx71, hx72, hp70, hp71, hp72, hp73, hp74⟩ | exact ⟨hx80, hx81, hx82, hp80, hp81, hp82, hp83, hp84⟩ | exact ⟨hx90, hx91, hx92, hp90, hp91, hp92, hp93, hp94⟩ | go_keep)
    (first
    | (go_at_call 12
       with_reducible refine (C12.out _).mono ?_
       rintro e w6 ⟨rfl, hb⟩
       have HX6 := Lib.hid (HX5.out.drew.keep hb)
       have HP6 := Lib.hid (HP5.out.drew.keep hb)
       have HB6 := Lib.hid (HB5.out.drew.trans (hb.mono HB5.out.drew.size))
       clear hb
       have hx60 := HX6.out.c0
       have hx61 := HX6.out.c1
       have hx62 := HX6.out.c2
       have hp60 := HP6.out.c0
       have hp61 := HP6.out.c1
       have hp62 := HP6.out.c2
       have hp63 := HP6.out.c3
       have hp64 := HP6.out.c4)
    | (go_at_call 13
       with_reducible refine (C13.out _).mono ?_
       rintro e w7 ⟨rfl, hb⟩
       have HX7 := Lib.hid (HX6.out.keep hb)
       have HP7 := Lib.hid (HP6.out.keep hb)
       have HB7 := Lib.hid (HB6.out.trans (hb.mono HB6.out.size))
       clear hb
       have hx70 := HX7.out.c0
       have hx71 := HX7.out.c1
       have hx72 := HX7.out.c2
       have hp70 := HP7.out.c0
       have hp71 := HP7.out.c1
       have hp72 := HP7.out.c2
       have hp73 := HP7.out.c3
       have hp74 := HP7.out.c4)
    | (go_at_call 14
       with_reducible refine (C14.out _).mono ?_
       rintro e w8 ⟨rfl, hb⟩
       have HX8 := Lib.hid (HX7.out.keep hb)
       have HP8 := Lib.hid (HP7.out.keep hb)
       have HB8 := Lib.hid (HB7.out.trans (hb.mono HB7.out.size))
       clear hb
       have hx80 := HX8.out.c0
       have hx81 := HX8.out.c1
       have hx82 := HX8.out.c2
       have hp80 := HP8.out.c0
       have hp81 := HP8.out.c1
       have hp82 := HP8.out.c2
       have hp83 := HP8.out.c3
       have hp84 := HP8.out.c4)
    | (go_at_call 18
       with_reducible refine (C18.out _).mono ?_
       rintro e w9 ⟨rfl, hb⟩
       have HX9 := Lib.hid (HX8.out.keep hb)
       have HP9 := Lib.hid (HP8.out.keep hb)
       have HB9 := Lib.hid (HB8.out.trans (hb.mono HB8.out.size))
       clear hb
       have hx90 := HX9.out.c0
       have hx91 := HX9.out.c1
       have hx92 := HX9.out.c2
       have hp90 := HP9.out.c0
       have hp91 := HP9.out.c1
       have hp92 := HP9.out.c2
       have hp93 := HP9.out.c3
       have hp94 := HP9.out.c4))
  clear q1 q2 q3 C12 C13 C14 C18 hc0 hc1 hc2 hd0 hd1 hd2 hd3 hd4
  clear hx60 hx61 hx62 hp60 hp61 hp62 hp63 hp64 hx70 hx71 hx72 hp70 hp71 hp72 hp73 hp74 hx80 hx81 hx82 hp80 hp81 hp82 hp83 hp84
  clear HX5 HX6 HX7 HX8 HP5 HP6 HP7 HP8 HB5 HB6 HB7 HB8
  by_cases hin : 0 ≤ i ∧ i < 65534
  · obtain ⟨i1, i2⟩ := hin
    have hib := mul_bounds (i := i) (a := 65534) (q := s / 8) (b := 512) i1 (by omega) (by omega) (by omega)
    have X1 := Lib.hid (show IntKind.i64.wrap (8 * i) = 8 * i from IntWalk.i64_in _ (by omega))
    have X2 := Lib.hid (show IntKind.i64.wrap (16 + 8 * i) = 16 + 8 * i from IntWalk.i64_in _ (by omega))
    have X3 := Lib.hid (show IntKind.i64.wrap (16 + m * 8 + i) = 16 + m * 8 + i from IntWalk.i64_in _ (by omega))
    have X5 := Lib.hid (show IntKind.i64.wrap (i * (s / 8)) = i * (s / 8) from IntWalk.i64_in _ (by omega))
    have X6 := Lib.hid (show IntKind.i64.wrap (bkAt n m + i * (s / 8)) = bkAt n m + i * (s / 8) from IntWalk.i64_in _ (by omega))
    have X7 := Lib.hid (show IntKind.i64.wrap (i.tdiv 64) = i / 64 from IntWalk.i64_quo _ _ (by omega))
    have X8 := Lib.hid (show IntKind.i64.wrap (bmAt n m + i / 64) = bmAt n m + i / 64 from IntWalk.i64_in _ (by omega))
    clear hib
    go_wp2
    have x1 := X1.out
    have x2 := X2.out
    have x3 := X3.out
    have x4 := W3.out
    have x5 := X5.out
    have x6 := X6.out
    have x7 := X7.out
    have x8 := X8.out
    go_region_held3 (fun W' => W'.cell? ⟨b, 0, none⟩ = some (.int .i64 n) ∧ W'.cell? ⟨b, 1, none⟩ = some (.int .i64 m) ∧ W'.cell? ⟨b, 2, none⟩ = some (.int .i64 s) ∧ W'.cell? ⟨d, 0, none⟩ = some (.int .i64 16) ∧ W'.cell? ⟨d, 1, none⟩ = some (.int .i64 (16 + m * 8)) ∧ W'.cell? ⟨d, 2, none⟩ = some (.int .i64 (bmAt n m)) ∧ W'.cell? ⟨d, 3, none⟩ = some (.int .i64 (bkAt n m)) ∧ W'.cell? ⟨d, 4, none⟩ = some (.int .i64 (fin n m s))) (first | exact ⟨hx90, hx91, hx92, hp90, hp91, hp92, hp93, hp94⟩ | exact ⟨hx100, hx101, hx102, hp100, hp101, hp102, hp103, hp104⟩ | exact ⟨hx110, hx111, hx112, hp110, hp111, hp112, hp113, hp114⟩ | exact ⟨hx120, hx121, hx122, hp120, hp121, hp122, hp123, hp124⟩ | go_keep)
      (first
      | (go_at_call 15
         with_reducible refine (C15.out _).mono ?_
         rintro e w10 ⟨rfl, hb⟩
         have HX10 := Lib.hid (HX9.out.drew.keep hb)
         have HP10 := Lib.hid (HP9.out.drew.keep hb)
         have HB10 := Lib.hid (HB9.out.drew.trans (hb.mono HB9.out.drew.size))
         clear hb
         have hx100 := HX10.out.c0
         have hx101 := HX10.out.c1
         have hx102 := HX10.out.c2
         have hp100 := HP10.out.c0
         have hp101 := HP10.out.c1
         have hp102 := HP10.out.c2
         have hp103 := HP10.out.c3
         have hp104 := HP10.out.c4)
      | (go_at_call 16
         with_reducible refine (C16.out _).mono ?_
         rintro e w11 ⟨rfl, hb⟩
         have HX11 := Lib.hid (HX10.out.keep hb)
         have HP11 := Lib.hid (HP10.out.keep hb)
         have HB11 := Lib.hid (HB10.out.trans (hb.mono HB10.out.size))
         clear hb
         have hx110 := HX11.out.c0
         have hx111 := HX11.out.c1
         have hx112 := HX11.out.c2
         have hp110 := HP11.out.c0
         have hp111 := HP11.out.c1
         have hp112 := HP11.out.c2
         have hp113 := HP11.out.c3
         have hp114 := HP11.out.c4)
      | (go_at_call 17
         with_reducible refine (C17.out _).mono ?_
         rintro e w12 ⟨rfl, hb⟩
         have HX12 := Lib.hid (HX11.out.keep hb)
         have HP12 := Lib.hid (HP11.out.keep hb)
         have HB12 := Lib.hid (HB11.out.trans (hb.mono HB11.out.size))
         clear hb
         have hx120 := HX12.out.c0
         have hx121 := HX12.out.c1
         have hx122 := HX12.out.c2
         have hp120 := HP12.out.c0
         have hp121 := HP12.out.c1
         have hp122 := HP12.out.c2
         have hp123 := HP12.out.c3
         have hp124 := HP12.out.c4)
      | (go_at_call 20
         with_reducible refine (I1.out _).mono ?_
         rintro e w' ⟨rfl, rfl⟩)
      | (go_at_call 20
         with_reducible refine (I2.out _).mono ?_
         rintro e w' ⟨rfl, rfl⟩)
      | (go_at_call 20
         with_reducible refine (I3.out _).mono ?_
         rintro e w' ⟨rfl, rfl⟩)
      | (go_at_call 20
         with_reducible refine (I4.out _).mono ?_
         rintro e w' ⟨rfl, rfl⟩))
    clear x1 x2 x3 x4 x5 x6 x7 x8 X1 X2 X3 X5 X6 X7 X8
    by_cases hlt : i < n
    · have r := F5.out i1 hlt
      subst r
      go_wp2
      go_ret
      exact ⟨rfl, HB12.out⟩
    · have r := F6.out (by omega)
      subst r
      go_wp2
      go_ret
      exact ⟨rfl, HB12.out⟩
  · obtain ⟨r1, r2, r3, r4, r5⟩ := F0.out hin
    subst r1 r2 r3 r4 r5
    by_cases hneg : i < 0
    · clear hin
      go_wp2_with fail
      refine (C15.out _).mono ?_
      rintro e w10 ⟨rfl, hb⟩
      have HB10 := Lib.hid (HB9.out.trans (hb.mono HB9.out.size))
      have HX10 := Lib.hid (HX9.out.keep hb)
      clear hb
      have hx100 := HX10.out.c0
      have hx101 := HX10.out.c1
      have hx102 := HX10.out.c2
      go_wp2_with fail
      refine (C16.out _).mono ?_
      rintro e w11 ⟨rfl, hb⟩
      have HB11 := Lib.hid (HB10.out.trans (hb.mono HB10.out.size))
      have HX11 := Lib.hid (HX10.out.keep hb)
      clear hb
      have hx110 := HX11.out.c0
      have hx111 := HX11.out.c1
      have hx112 := HX11.out.c2
      go_wp2_with fail
      refine (C17.out _).mono ?_
      rintro e w12 ⟨rfl, hb⟩
      have HB12 := Lib.hid (HB11.out.trans (hb.mono HB11.out.size))
      have HX12 := Lib.hid (HX11.out.keep hb)
      clear hb
      have hx120 := HX12.out.c0
      have hx121 := HX12.out.c1
      have hx122 := HX12.out.c2
      go_wp2
      go_ret
      exact ⟨rfl, HB12.out⟩
    · have hge : 65534 ≤ i := by omega
      clear hin
      go_wp2_with fail
      refine (C15.out _).mono ?_
      rintro e w10 ⟨rfl, hb⟩
      have HB10 := Lib.hid (HB9.out.trans (hb.mono HB9.out.size))
      have HX10 := Lib.hid (HX9.out.keep hb)
      clear hb
      have hx100 := HX10.out.c0
      have hx101 := HX10.out.c1
      have hx102 := HX10.out.c2
      go_wp2_with fail
      refine (C16.out _).mono ?_
      rintro e w11 ⟨rfl, hb⟩
      have HB11 := Lib.hid (HB10.out.trans (hb.mono HB10.out.size))
      have HX11 := Lib.hid (HX10.out.keep hb)
      clear hb
      have hx110 := HX11.out.c0
      have hx111 := HX11.out.c1
      have hx112 := HX11.out.c2
      go_wp2_with fail
      refine (C17.out _).mono ?_
      rintro e w12 ⟨rfl, hb⟩
      have HB12 := Lib.hid (HB11.out.trans (hb.mono HB11.out.size))
      have HX12 := Lib.hid (HX11.out.keep hb)
      clear hb
      have hx120 := HX12.out.c0
      have hx121 := HX12.out.c1
      have hx122 := HX12.out.c2
      go_wp2
      go_ret
      exact ⟨rfl, HB12.out⟩
end Geo
end Go.Proofs.Ytoagfpjaaiodgaa
