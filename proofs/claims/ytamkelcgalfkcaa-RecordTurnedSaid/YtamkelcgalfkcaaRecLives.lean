/- The chapter's example; RecordEncodes, walked. -/
import Derived.Test.YtamkelcgalfkcaaRecRefDec
namespace Go.Proofs.Ytamkelcgalfkcaa
open Go.RowKit Go.MapKept
namespace Rec
open Lin

theorem nums_ex : nums 2 3 4 = 1125912791875585 := by decide
theorem may_ex : may ((2 : Nat) : Int) ((3 : Nat) : Int) ((4 : Nat) : Int) ((5 : Nat) : Int) = true := by decide

set_option maxHeartbeats 1000000 in
theorem lives_any (w : World) : Calls Try.prog 7 #[] w fun r w' => r = .returned (.bool true) ∧ Below w.heap.size w w' := by
  have he : Calls Try.prog 8 #[.agg #[.int .i64 2, .int .i64 3, .int .i64 4, .int .i64 5]] w fun r w' => ∃ g : Nat, w.heap.size ≤ g ∧ r = .returned (.tuple #[.slice (some ⟨g, 0, none⟩) 8 8, .int .i64 0]) ∧ w'.rowIs g 41 8 (rowOf (ln 2 3 4 5)) ∧ Below w.heap.size w w' := encode_yes w 2 3 4 5 may_ex
  have HE := Lib.hid he
  have H2 := Lib.hid Crc.lives_any
  have H3 := Lib.hid Pack.lives_any
  clear he
  go_enter Try.func7, Try.ntmps7
  go_wp2_with fail
  refine HE.out.mono ?_
  rintro e w0 ⟨g, _, rfl, hrow, hb⟩
  have HR1 := Lib.hid hrow
  have HB1 := Lib.hid hb
  clear hrow hb HE
  go_wp2_with fail
  refine (H2.out _).mono ?_
  rintro e w2 ⟨rfl, hb⟩
  have HR2 := Lib.hid (row_keep HR1.out hb)
  have HB2 := Lib.hid (HB1.out.trans (hb.mono HB1.out.size))
  clear hb HR1 HB1
  go_wp2_with fail
  refine (H3.out _).mono ?_
  rintro e w3 ⟨rfl, hb⟩
  have HR3 := Lib.hid (row_keep HR2.out hb)
  have HB3 := Lib.hid (HB2.out.trans (hb.mono HB2.out.size))
  clear hb HR2 HB2
  have hc1 : w3.cell? ⟨g, 0, none⟩ = some (.int .u64 1125912791875585) := by
    rw [HR3.out.cell (i := 0) (by omega)]
    show some (Value.int .u64 ((nums 2 3 4 : Nat) : Int)) = _
    rw [nums_ex]
    rfl
  go_wp2
  go_ret
  exact ⟨rfl, HB3.out⟩

set_option maxHeartbeats 1000000 in
theorem encodes_no (w : World) (s f t c : Int) (hm : may s f t c = false) :
    Calls Try.prog 3 #[.agg #[.int .i64 s, .int .i64 f, .int .i64 t, .int .i64 c]] w fun r w' => r = .returned (.bool true) ∧ Below w.heap.size w w' := by
  have HE := Lib.hid (fun w => encode_no w s f t c hm)
  have HMR := Lib.hid (fun w => refMay_any w s f t c)
  have HMY := Lib.hid (fun w => may_any w s f t c)
  have HMF := Lib.hid hm
  have HL := Lib.hid lives_any
  clear hm
  have HB := Lib.hid ((Below.refl w.heap.size w).alloc (Nat.le_refl _) (.cells #[.int .i64 s, .int .i64 f, .int .i64 t, .int .i64 c] 23))
  have HX := Lib.hid (boxed4 w s f t c 23)
  go_enter Try.func3, Try.ntmps3
  go_wp2_with fail
  refine (HL.out _).mono ?_
  rintro e w0 ⟨rfl, hb⟩
  have HB0 := Lib.hid (HB.out.trans (hb.mono HB.out.size))
  have HX0 := Lib.hid (HX.out.keep hb)
  clear hb HB HX
  have hc0 := HX0.out.c0
  have hc1 := HX0.out.c1
  have hc2 := HX0.out.c2
  have hc3 := HX0.out.c3
  go_wp2_with fail
  refine (HE.out _).mono ?_
  rintro e w1 ⟨rfl, hb⟩
  have HB1 := Lib.hid (HB0.out.trans (hb.mono HB0.out.size))
  have HX1 := Lib.hid (HX0.out.keep hb)
  clear hb HB0 HX0 hc0 hc1 hc2 hc3
  have hc0 := HX1.out.c0
  have hc1 := HX1.out.c1
  have hc2 := HX1.out.c2
  have hc3 := HX1.out.c3
  go_wp2_with fail
  refine (HMR.out _).mono ?_
  rintro e w2 ⟨rfl, hb⟩
  rw [HMF.out]
  have HB2 := Lib.hid (HB1.out.trans (hb.mono HB1.out.size))
  have HX2 := Lib.hid (HX1.out.keep hb)
  clear hb HB1 HX1 hc0 hc1 hc2 hc3
  have hc0 := HX2.out.c0
  have hc1 := HX2.out.c1
  have hc2 := HX2.out.c2
  have hc3 := HX2.out.c3
  go_wp2_with fail
  refine (HMY.out _).mono ?_
  rintro e w3 ⟨rfl, hb⟩
  rw [HMF.out]
  have HB3 := Lib.hid (HB2.out.trans (hb.mono HB2.out.size))
  clear hb HB2 HX2 hc0 hc1 hc2 hc3
  go_wp2
  go_ret
  exact ⟨rfl, HB3.out⟩

set_option maxHeartbeats 2000000 in
theorem encodes_yes (w : World) (s f t c : Nat) (hm : may s f t c = true) :
    Calls Try.prog 3 #[.agg #[.int .i64 (s : Int), .int .i64 (f : Int), .int .i64 (t : Int), .int .i64 (c : Int)]] w fun r w' => r = .returned (.bool true) ∧ Below w.heap.size w w' := by
  obtain ⟨L, hL⟩ : ∃ L, ln s f t c = L := ⟨_, rfl⟩
  have HU := Lib.hid (ln_u64 hm)
  have HE := Lib.hid (fun w => encode_yes w s f t c hm)
  have HF := Lib.hid (fun w => refEncode_yes w s f t c hm)
  have HD := Lib.hid (dec_ln hm)
  have HLL := Lib.hid (ln_len s f t c)
  rw [hL] at HU HE HF HD HLL
  have HST := Lib.hid (st_some HD.out)
  have HMR := Lib.hid (fun w => refMay_any w s f t c)
  have HMY := Lib.hid (fun w => may_any w s f t c)
  have HMT := Lib.hid hm
  have HL := Lib.hid lives_any
  clear hm hL
  have HB := Lib.hid ((Below.refl w.heap.size w).alloc (Nat.le_refl _) (.cells #[.int .i64 (s : Int), .int .i64 (f : Int), .int .i64 (t : Int), .int .i64 (c : Int)] 23))
  have HX := Lib.hid (boxed4 w s f t c 23)
  go_enter Try.func3, Try.ntmps3
  go_wp2_with fail
  refine (HL.out _).mono ?_
  rintro e w0 ⟨rfl, hb⟩
  have HB0 := Lib.hid (HB.out.trans (hb.mono HB.out.size))
  have HX0 := Lib.hid (HX.out.keep hb)
  clear hb HB HX
  have hc0 := HX0.out.c0
  have hc1 := HX0.out.c1
  have hc2 := HX0.out.c2
  have hc3 := HX0.out.c3
  go_wp2_with fail
  refine (HE.out _).mono ?_
  rintro e w1 ⟨g, _, rfl, hrow, hb⟩
  have HB1 := Lib.hid (HB0.out.trans (hb.mono HB0.out.size))
  have HX1 := Lib.hid (HX0.out.keep hb)
  have HR1 := Lib.hid (row_pack hrow HLL.out HU.out)
  clear hb HB0 HX0 hrow hc0 hc1 hc2 hc3
  have hc0 := HX1.out.c0
  have hc1 := HX1.out.c1
  have hc2 := HX1.out.c2
  have hc3 := HX1.out.c3
  go_wp2_with fail
  refine (HMR.out _).mono ?_
  rintro e w2 ⟨rfl, hb⟩
  rw [HMT.out]
  have HB2 := Lib.hid (HB1.out.trans (hb.mono HB1.out.size))
  have HX2 := Lib.hid (HX1.out.keep hb)
  have HR2 := Lib.hid (HR1.out.keep hb)
  clear hb HB1 HX1 HR1 hc0 hc1 hc2 hc3
  have hc0 := HX2.out.c0
  have hc1 := HX2.out.c1
  have hc2 := HX2.out.c2
  have hc3 := HX2.out.c3
  go_wp2_with fail
  refine (HMY.out _).mono ?_
  rintro e w3 ⟨rfl, hb⟩
  rw [HMT.out]
  have HB3 := Lib.hid (HB2.out.trans (hb.mono HB2.out.size))
  have HX3 := Lib.hid (HX2.out.keep hb)
  have HR3 := Lib.hid (HR2.out.keep hb)
  clear hb HB2 HX2 HR2 hc0 hc1 hc2 hc3
  have hd := decode_any (some ⟨g, 0, none⟩) 8 L HR3.out
  rw [HD.out, HST.out, HLL.out] at hd
  simp only [gv] at hd
  have HDD := Lib.hid hd
  clear hd
  go_wp2_with fail
  refine HDD.out.mono ?_
  rintro e w4 ⟨rfl, hb⟩
  have hba := hb.alloc hb.size (.cells #[.int .i64 (s : Int), .int .i64 (f : Int), .int .i64 (t : Int), .int .i64 (c : Int)] 23)
  have HB4 := Lib.hid (HB3.out.trans (hba.mono HB3.out.size))
  have HX4 := Lib.hid (HX3.out.keep hba)
  have HR4 := Lib.hid (HR3.out.keep hba)
  have HY4 := Lib.hid (boxed4 w4 s f t c 23)
  have hc0 := HX4.out.c0
  have hc1 := HX4.out.c1
  have hc2 := HX4.out.c2
  have hc3 := HX4.out.c3
  clear hb hba HB3 HX3 HR3 HDD
  go_wp2_with fail
  generalize w4.alloc (.cells #[.int .i64 (s : Int), .int .i64 (f : Int), .int .i64 (t : Int), .int .i64 (c : Int)] 23) = w5 at *
  generalize w4.heap.size = k4 at *
  refine (HF.out _).mono ?_
  rintro e w6 ⟨G, gc, rfl, hw, hb⟩
  have HB6 := Lib.hid (HB4.out.trans (hb.mono HB4.out.size))
  have HX6 := Lib.hid (HX4.out.keep hb)
  have HY6 := Lib.hid (HY4.out.keep hb)
  have hsame := Pack.same_any (some ⟨g, 0, none⟩) G 8 gc L L (HR4.out.keep hb) hw
  rw [HLL.out, decide_eq_true rfl] at hsame
  have HS := Lib.hid hsame
  clear hb HB4 HX4 hw hsame HR4 HY4 hc0 hc1 hc2 hc3
  go_wp2_with fail
  refine HS.out.mono ?_
  rintro e w7 ⟨rfl, q, hq⟩
  have HB7 := Lib.hid (show Below w.heap.size w w7 by rw [hq]; exact Pack.below_drewN HB6.out q)
  have HX7 := Lib.hid (show Box4 w7 w.heap.size s f t c by rw [hq]; exact HX6.out.drewN q)
  have HY7 := Lib.hid (show Box4 w7 k4 s f t c by rw [hq]; exact HY6.out.drewN q)
  clear hq HB6 HX6 HY6 HS
  have hc0 := HX7.out.c0
  have hc1 := HX7.out.c1
  have hc2 := HX7.out.c2
  have hc3 := HX7.out.c3
  have hd0 := HY7.out.c0
  have hd1 := HY7.out.c1
  have hd2 := HY7.out.c2
  have hd3 := HY7.out.c3
  go_wp2
  go_ret
  exact ⟨rfl, HB7.out⟩

theorem encodes_any (w : World) (s f t c : Int) :
    Calls Try.prog 3 #[.agg #[.int .i64 s, .int .i64 f, .int .i64 t, .int .i64 c]] w fun r w' => r = .returned (.bool true) ∧ Below w.heap.size w w' := by
  cases hm : may s f t c with
  | false => exact encodes_no w s f t c hm
  | true =>
    obtain ⟨s, f, t, c, rfl, rfl, rfl, rfl⟩ := may_nat hm
    exact encodes_yes w s f t c hm
end Rec
end Go.Proofs.Ytamkelcgalfkcaa
