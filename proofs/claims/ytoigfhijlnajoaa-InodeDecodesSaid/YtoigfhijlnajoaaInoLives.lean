/- The chapter's example; InodeEncodes, walked. -/
import Derived.Test.YtoigfhijlnajoaaInoRefDec
namespace Go.Proofs.Ytoigfhijlnajoaa
open Go.RowKit Go.MapKept
namespace Ino
open Lin

theorem nums_ex : nums 1 3 = 196609 := by decide
theorem may_ex : may ((1 : Nat) : Int) (((3 : Nat) : Int) - 1) ((5 : Nat) : Int) = true := by decide

set_option maxHeartbeats 1000000 in
theorem lives_any (w : World) : Calls Try.prog 7 #[] w fun r w' => r = .returned (.bool true) ∧ Below w.heap.size w w' := by
  have he : Calls Try.prog 8 #[.agg #[.int .i64 1, .int .i64 2, .int .i64 5]] w fun r w' => ∃ g : Nat, w.heap.size ≤ g ∧ r = .returned (.tuple #[.slice (some ⟨g, 0, none⟩) 8 8, .int .i64 0]) ∧ w'.rowIs g 45 8 (rowOf (full 1 3 5)) ∧ Below w.heap.size w w' := encode_full w 1 3 5 2 (by decide) (by decide) may_ex
  have HE := Lib.hid he
  have H2 := Lib.hid Crc.lives_any
  have H3 := Lib.hid Pack.lives_any
  clear he
  go_enter Try.func7, Try.ntmps7
  go_wp2_with fail
  refine HE.out.mono ?_
  rintro e w0 ⟨g, _, rfl, hrow, hb⟩
  have HR1 := Lib.hid hrow
  have HB1 := Lib.hid hb
  clear hrow hb HE
  go_wp2_with fail
  refine (H2.out _).mono ?_
  rintro e w2 ⟨rfl, hb⟩
  have HR2 := Lib.hid (row_keep HR1.out hb)
  have HB2 := Lib.hid (HB1.out.trans (hb.mono HB1.out.size))
  clear hb HR1 HB1
  go_wp2_with fail
  refine (H3.out _).mono ?_
  rintro e w3 ⟨rfl, hb⟩
  have HR3 := Lib.hid (row_keep HR2.out hb)
  have HB3 := Lib.hid (HB2.out.trans (hb.mono HB2.out.size))
  clear hb HR2 HB2
  have hc1 : w3.cell? ⟨g, 0, none⟩ = some (.int .u64 196609) := by
    rw [HR3.out.cell (i := 0) (by omega)]
    show some (Value.int .u64 ((nums 1 3 : Nat) : Int)) = _
    rw [nums_ex]
    rfl
  go_wp2
  go_ret
  exact ⟨rfl, HB3.out⟩

theorem ref_any (w : World) (k h s : Int) : Calls Try.prog 10 #[.agg #[.int .i64 k, .int .i64 h, .int .i64 s]] w fun r w' => r = .returned (.agg #[.int .i64 k, .int .i64 h, .int .i64 s]) ∧ Below w.heap.size w w' := by
  go_enter Try.func10, Try.ntmps10
  go_wp2
  refine bodyPost_ret (v := .agg #[.int .i64 k, .int .i64 h, .int .i64 s]) ?_ rfl ⟨rfl, ?_⟩
  · simp [results, Try.results10, go_sem]
  · exact below_two _ _ _

set_option maxHeartbeats 1000000 in
theorem encodes_no (w : World) (k h s : Int) (hm : may k h s = false) :
    Calls Try.prog 3 #[.agg #[.int .i64 k, .int .i64 h, .int .i64 s]] w fun r w' => r = .returned (.bool true) ∧ Below w.heap.size w w' := by
  have HE := Lib.hid (fun w => encode_no w k h s hm)
  have HF := Lib.hid (fun w => refEncode_no w k h s hm)
  have HRF := Lib.hid (fun w => ref_any w k h s)
  have HMY := Lib.hid (fun w => may_any w k h s)
  have HMF := Lib.hid hm
  have HS := Lib.hid (fun (w : World) => Pack.same_any (w := w) none none 0 0 [] [] (Pack.wds_nil _ _) (Pack.wds_nil _ _))
  have HL := Lib.hid lives_any
  clear hm
  have HB := Lib.hid ((Below.refl w.heap.size w).alloc (Nat.le_refl _) (.cells #[.int .i64 k, .int .i64 h, .int .i64 s] 24))
  have HX := Lib.hid (boxed w k h s 24)
  go_enter Try.func3, Try.ntmps3
  go_wp2_with fail
  refine (HL.out _).mono ?_
  rintro e w0 ⟨rfl, hb⟩
  have HB0 := Lib.hid (HB.out.trans (hb.mono HB.out.size))
  have HX0 := Lib.hid (HX.out.keep hb)
  clear hb HB HX
  have hc0 := HX0.out.c0
  have hc1 := HX0.out.c1
  have hc2 := HX0.out.c2
  go_wp2_with fail
  refine (HE.out _).mono ?_
  rintro e w1 ⟨rfl, hb⟩
  have HB1 := Lib.hid (HB0.out.trans (hb.mono HB0.out.size))
  have HX1 := Lib.hid (HX0.out.keep hb)
  clear hb HB0 HX0 hc0 hc1 hc2
  have hc0 := HX1.out.c0
  have hc1 := HX1.out.c1
  have hc2 := HX1.out.c2
  go_wp2_with fail
  refine (HRF.out _).mono ?_
  rintro e w1a ⟨rfl, hb⟩
  have HB1a := Lib.hid (HB1.out.trans (hb.mono HB1.out.size))
  have HX1a := Lib.hid (HX1.out.keep hb)
  clear hb HB1 HX1 hc0 hc1 hc2
  go_wp2_with fail
  refine (HF.out _).mono ?_
  rintro e w2 ⟨rfl, hb⟩
  have HB2 := Lib.hid (HB1a.out.trans (hb.mono HB1a.out.size))
  have HX2 := Lib.hid (HX1a.out.keep hb)
  clear hb HB1a HX1a
  go_wp2_with fail
  refine (HS.out _).mono ?_
  rintro e w3 ⟨rfl, q, hq⟩
  have HB3 := Lib.hid (show Below w.heap.size w w3 by rw [hq]; exact Pack.below_drewN HB2.out q)
  have HX3 := Lib.hid (show Box w3 w.heap.size k h s by rw [hq]; exact HX2.out.drewN q)
  clear hq HB2 HX2
  have hc0 := HX3.out.c0
  have hc1 := HX3.out.c1
  have hc2 := HX3.out.c2
  go_wp2_with fail
  refine (HMY.out _).mono ?_
  rintro e w4 ⟨rfl, hb⟩
  rw [HMF.out]
  have HB4 := Lib.hid (HB3.out.trans (hb.mono HB3.out.size))
  clear hb HB3 HX3 hc0 hc1 hc2
  go_wp2
  go_ret
  exact ⟨rfl, HB4.out⟩

set_option maxHeartbeats 1000000 in
theorem encodes_yes (w : World) (k p s : Nat) (h : Int) (hh : h = (p : Int) - 1) (hm : may k ((p : Int) - 1) s = true) :
    Calls Try.prog 3 #[.agg #[.int .i64 (k : Int), .int .i64 h, .int .i64 (s : Int)]] w fun r w' => r = .returned (.bool true) ∧ Below w.heap.size w w' := by
  have HU := Lib.hid (ln_u64 hm)
  have HE := Lib.hid (fun w => encode_yes w k p s h hh hm)
  have HF := Lib.hid (fun w => refEncode_yes w k p s h hh hm)
  have HD := Lib.hid (dec_ln hm)
  have HRF := Lib.hid (fun w => ref_any w k h s)
  have HMY := Lib.hid (fun w => may_any w k h s)
  have HMT := Lib.hid (show may k h s = true by rw [hh]; exact hm)
  have HH := Lib.hid hh
  have HL := Lib.hid lives_any
  clear hm hh
  have HB := Lib.hid ((Below.refl w.heap.size w).alloc (Nat.le_refl _) (.cells #[.int .i64 (k : Int), .int .i64 h, .int .i64 (s : Int)] 24))
  have HX := Lib.hid (boxed w k h s 24)
  go_enter Try.func3, Try.ntmps3
  go_wp2_with fail
  refine (HL.out _).mono ?_
  rintro e w0 ⟨rfl, hb⟩
  have HB0 := Lib.hid (HB.out.trans (hb.mono HB.out.size))
  have HX0 := Lib.hid (HX.out.keep hb)
  clear hb HB HX
  have hc0 := HX0.out.c0
  have hc1 := HX0.out.c1
  have hc2 := HX0.out.c2
  go_wp2_with fail
  refine (HE.out _).mono ?_
  rintro e w1 ⟨g, _, rfl, hrow, hb⟩
  have HB1 := Lib.hid (HB0.out.trans (hb.mono HB0.out.size))
  have HX1 := Lib.hid (HX0.out.keep hb)
  have HR1 := Lib.hid (row_pack hrow (ln_len _ _ _) HU.out)
  clear hb HB0 HX0 hrow hc0 hc1 hc2
  have hc0 := HX1.out.c0
  have hc1 := HX1.out.c1
  have hc2 := HX1.out.c2
  go_wp2_with fail
  refine (HRF.out _).mono ?_
  rintro e w1a ⟨rfl, hb⟩
  have HB1a := Lib.hid (HB1.out.trans (hb.mono HB1.out.size))
  have HX1a := Lib.hid (HX1.out.keep hb)
  have HR1a := Lib.hid (HR1.out.keep hb)
  clear hb HB1 HX1 HR1 hc0 hc1 hc2
  go_wp2_with fail
  refine (HF.out _).mono ?_
  rintro e w2 ⟨G, gc, rfl, hw, hb⟩
  have HB2 := Lib.hid (HB1a.out.trans (hb.mono HB1a.out.size))
  have HX2 := Lib.hid (HX1a.out.keep hb)
  have HR2 := Lib.hid (HR1a.out.keep hb)
  have hsame := Pack.same_any (some ⟨g, 0, none⟩) G 8 gc (ln k p s) (ln k p s) HR2.out hw
  rw [ln_len, decide_eq_true rfl] at hsame
  have HS := Lib.hid hsame
  clear hb HB1a HX1a hw hsame HR1a
  go_wp2_with fail
  refine HS.out.mono ?_
  rintro e w3 ⟨rfl, q, hq⟩
  have HB3 := Lib.hid (show Below w.heap.size w w3 by rw [hq]; exact Pack.below_drewN HB2.out q)
  have HX3 := Lib.hid (show Box w3 w.heap.size k h s by rw [hq]; exact HX2.out.drewN q)
  have HR3 := Lib.hid (show Pack.Wds w3 (some ⟨g, 0, none⟩) (ln k p s) by rw [hq]; exact HR2.out.drewN q)
  clear hq HB2 HX2 HR2 HS
  have hc0 := HX3.out.c0
  have hc1 := HX3.out.c1
  have hc2 := HX3.out.c2
  go_wp2_with fail
  refine (HMY.out _).mono ?_
  rintro e w4 ⟨rfl, hb⟩
  rw [HMT.out]
  have HB4 := Lib.hid (HB3.out.trans (hb.mono HB3.out.size))
  have HX4 := Lib.hid (HX3.out.keep hb)
  have hd := decode_any (some ⟨g, 0, none⟩) 8 (ln k p s) (HR3.out.keep hb)
  rw [HD.out, ln_len] at hd
  simp only [gv, ev] at hd
  rw [← HH.out] at hd
  have HDD := Lib.hid hd
  clear hb hd HB3 HX3 HR3 hc0 hc1 hc2
  go_wp2_with fail
  refine HDD.out.mono ?_
  rintro e w5 ⟨rfl, hb⟩
  have HB5 := Lib.hid (HB4.out.trans (hb.mono HB4.out.size))
  have HX5 := Lib.hid (HX4.out.keep hb)
  have hlt : w.heap.size < w5.heap.size := HX5.out.lt
  have hc0 := HX5.out.c0
  have hc1 := HX5.out.c1
  have hc2 := HX5.out.c2
  clear hb HB4 HX4 HDD
  go_wp2
  go_ret
  exact ⟨rfl, HB5.out.alloc HB5.out.size _⟩

theorem encodes_any (w : World) (k h s : Int) :
    Calls Try.prog 3 #[.agg #[.int .i64 k, .int .i64 h, .int .i64 s]] w fun r w' => r = .returned (.bool true) ∧ Below w.heap.size w w' := by
  cases hm : may k h s with
  | false => exact encodes_no w k h s hm
  | true =>
    obtain ⟨k, p, s, rfl, hh, rfl⟩ := may_nat hm
    exact encodes_yes w k p s h hh (by rw [← hh]; exact hm)
end Ino
end Go.Proofs.Ytoigfhijlnajoaa
