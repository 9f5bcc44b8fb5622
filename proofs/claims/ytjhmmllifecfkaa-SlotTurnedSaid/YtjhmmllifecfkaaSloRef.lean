/- The document's May and Encode. -/
import Derived.Test.YtjhmmllifecfkaaSloDecode
namespace Go.Proofs.Ytjhmmllifecfkaa
open Go.RowKit Go.MapKept
namespace Slo
open Lin

theorem ret_bool {a b : Bool} (h : a = true ↔ b = true) : Ending.returned (Value.bool a) = Ending.returned (Value.bool b) := by rw [Bool.eq_iff_iff.2 h]

set_option maxHeartbeats 1000000 in
theorem refMay_any (w : World) (s c n : Int) :
    Calls Try.prog 14 #[.agg #[.int .i64 s, .int .i64 c, .int .i64 n]] w fun r w' => r = .returned (.bool (may s c n)) ∧ Below w.heap.size w w' := by
  go_enter Try.func14, Try.ntmps14
  go_wp2
  all_goals go_ret
  all_goals refine ⟨ret_bool ?_, (Below.refl _ _).alloc (Nat.le_refl _) _⟩
  all_goals refine Iff.trans ?_ may_iff.symm
  all_goals unfold May
  all_goals simp only [decide_eq_true_eq, Bool.false_eq_true, false_iff] at *
  all_goals omega

theorem refEncode_no (w : World) (s c n : Int) (hm : may s c n = false) :
    Calls Try.prog 9 #[.agg #[.int .i64 s, .int .i64 c, .int .i64 n]] w fun r w' => r = .returned (.tuple #[.int .u64 0, .bool false]) ∧ Below w.heap.size w w' := by
  have HM := Lib.hid (fun w => refMay_any w s c n)
  have HE := Lib.hid hm
  clear hm
  have HB := Lib.hid ((Below.refl w.heap.size w).alloc (Nat.le_refl _) (.cells #[.int .i64 s, .int .i64 c, .int .i64 n] 31))
  go_enter Try.func9, Try.ntmps9
  go_wp2_with fail
  refine (HM.out _).mono ?_
  rintro e w' ⟨rfl, hb⟩
  rw [HE.out]
  have HB1 := Lib.hid (HB.out.trans (hb.mono HB.out.size))
  clear hb
  go_wp2
  go_ret2
  exact ⟨rfl, HB1.out⟩

theorem one_crc (w : World) {x : Nat} (h : x < 18446744073709551616) : Crc.Wds (w.alloc (.cells #[.int .u64 (x : Int)] 25)) (some ⟨w.heap.size, 0, none⟩) [x] :=
  ⟨fun y hy => by
    obtain rfl : y = x := by simpa using hy
    exact h, by simp, fun j hj => by
    have : j < 1 := hj
    match j, this with
    | 0, _ => exact ⟨w.heap.size, 0, rfl, by simp, Pack.alloc_cell _ _ _ _⟩⟩
theorem refBytes_one (w : World) {x : Nat} (h : x < 18446744073709551616) : Calls Try.prog 24 #[.slice (some ⟨w.heap.size, 0, none⟩) 1 1] (w.alloc (.cells #[.int .u64 (x : Int)] 25)) fun e w' => e = .returned (.string (Crc.str (Crc.wb x))) ∧ Below w.heap.size w w' := by
  refine (Crc.bytes_any _ 1 _ (one_crc w h) (by simp)).mono ?_
  rintro e w' ⟨rfl, hb⟩
  have hb0 := (Below.refl w.heap.size w).alloc (Nat.le_refl _) (.cells #[.int .u64 (x : Int)] 25)
  have e8 : Crc.wflat [x] = Crc.wb x := by simp [Crc.wflat]
  rw [e8]
  exact ⟨rfl, hb0.trans (hb.mono hb0.size)⟩
theorem tx_six (x : Nat) : Crc.tx ((Crc.str (Crc.wb x)).extract 0 6) = six x := by
  have h := Crc.tx_str (Crc.wb_byt x)
  unfold six
  rw [← h]
  unfold Crc.tx
  rw [ByteArray.data_extract, Array.toList_extract, List.extract_eq_take_drop, List.drop_zero, List.map_take]
  rw [show (Crc.str (List.map UInt8.toNat (Crc.str (Crc.wb x)).data.toList)) = Crc.str (Crc.wb x) by
    show Crc.str (Crc.tx (Crc.str (Crc.wb x))) = _
    rw [h]]
theorem refSum_six (w : World) (s c q : Nat) : Calls Try.prog 23 #[.string ((Crc.str (Crc.wb (nums s c q))).extract 0 6)] w fun e w' => e = .returned (.int .u16 (sum s c q : Nat)) ∧ w = w' := by
  have h := Crc.ref16_any w ((Crc.str (Crc.wb (nums s c q))).extract 0 6) (by
    rw [← Crc.tx_len, tx_six, six_len]
    omega)
  rw [tx_six] at h
  exact h
theorem str8 (x : Nat) : (Crc.str (Crc.wb x)).size = 8 := by rw [Crc.str_size, Crc.wb_len]

set_option maxHeartbeats 2000000 in
set_option maxRecDepth 100000 in
theorem refEncode_yes (w : World) (s c q : Nat) (n : Int) (hn : n = nx q) (hm : may s c (nx q) = true) :
    Calls Try.prog 9 #[.agg #[.int .i64 (s : Int), .int .i64 (c : Int), .int .i64 n]] w fun r w' => r = .returned (.tuple #[.int .u64 (wd s c q : Nat), .bool true]) ∧ Below w.heap.size w w' := by
  obtain ⟨h1, h2, h3, h4⟩ := may_lt hm
  have hs64 : s < 65536 := by omega
  have hc64 : c < 65536 := by omega
  have HM := Lib.hid (fun w => refMay_any w s c n)
  have HE := Lib.hid (show may s c n = true by rw [hn]; exact hm)
  have hnl := nums_lt hs64 hc64 h4
  have hsl := sum_lt s c q
  clear hm h1 h2 h3
  have HB := Lib.hid ((Below.refl w.heap.size w).alloc (Nat.le_refl _) (.cells #[.int .i64 (s : Int), .int .i64 (c : Int), .int .i64 n] 31))
  have HX := Lib.hid (boxed w s c n 31)
  by_cases hq : q = 65535
  · subst hq
    rw [nx_none] at hn
    subst hn
    go_enter Try.func9, Try.ntmps9
    go_wp2_with fail
    refine (HM.out _).mono ?_
    rintro e w1 ⟨rfl, hb⟩
    rw [HE.out]
    have HB1 := Lib.hid (HB.out.trans (hb.mono HB.out.size))
    have HX1 := Lib.hid (HX.out.keep hb)
    have hc0 := HX1.out.c0
    have hc1 := HX1.out.c1
    have hc2 := HX1.out.c2
    clear hb HX
    go_wp2_with fail
    rw [show ((s : Int) + 65536 * (c : Int) + 281470681743360) = ((nums s c 65535 : Nat) : Int) by unfold nums; omega]
    refine (refBytes_one _ (x := nums s c 65535) (by omega)).mono ?_
    rintro e w2 ⟨rfl, hb⟩
    have HB2 := Lib.hid (HB1.out.trans (hb.mono HB1.out.size))
    have h8 := str8 (nums s c 65535)
    have HR := Lib.hid (fun w => refSum_six w s c 65535)
    have HWD := Lib.hid (show ((wd s c 65535 : Nat) : Int) = ((nums s c 65535 : Nat) : Int) + 281474976710656 * ((sum s c 65535 : Nat) : Int) by unfold wd; omega)
    clear hb HB1 HX1 hc0 hc1 hc2
    generalize Crc.str (Crc.wb (nums s c 65535)) = T at *
    go_wp2_with fail
    refine (HR.out _).mono ?_
    rintro e w' ⟨rfl, rfl⟩
    go_wp2
    go_ret2
    exact ⟨by rw [HWD.out]; rfl, HB2.out⟩
  · rw [nx_some hq] at hn
    subst hn
    have hq0 : ¬ (q : Int) < 0 := by omega
    go_enter Try.func9, Try.ntmps9
    go_wp2_with fail
    refine (HM.out _).mono ?_
    rintro e w1 ⟨rfl, hb⟩
    rw [HE.out]
    have HB1 := Lib.hid (HB.out.trans (hb.mono HB.out.size))
    have HX1 := Lib.hid (HX.out.keep hb)
    have hc0 := HX1.out.c0
    have hc1 := HX1.out.c1
    have hc2 := HX1.out.c2
    clear hb HX
    go_wp2_with fail
    rw [show ((s : Int) + 65536 * (c : Int) + 4294967296 * (q : Int)) = ((nums s c q : Nat) : Int) by unfold nums; omega]
    refine (refBytes_one _ (x := nums s c q) (by omega)).mono ?_
    rintro e w2 ⟨rfl, hb⟩
    have HB2 := Lib.hid (HB1.out.trans (hb.mono HB1.out.size))
    have h8 := str8 (nums s c q)
    have HR := Lib.hid (fun w => refSum_six w s c q)
    have HWD := Lib.hid (show ((wd s c q : Nat) : Int) = ((nums s c q : Nat) : Int) + 281474976710656 * ((sum s c q : Nat) : Int) by unfold wd; omega)
    clear hb HB1 HX1 hc0 hc1 hc2
    generalize Crc.str (Crc.wb (nums s c q)) = T at *
    go_wp2_with fail
    refine (HR.out _).mono ?_
    rintro e w' ⟨rfl, rfl⟩
    go_wp2
    go_ret2
    exact ⟨by rw [HWD.out]; rfl, HB2.out⟩
end Slo
end Go.Proofs.Ytjhmmllifecfkaa
