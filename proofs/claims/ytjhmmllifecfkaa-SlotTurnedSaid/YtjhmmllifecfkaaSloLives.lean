/- The chapter's example; SlotEncodes, walked. -/
import Derived.Test.YtjhmmllifecfkaaSloRefDec
namespace Go.Proofs.Ytjhmmllifecfkaa
open Go.RowKit Go.MapKept
namespace Slo
open Lin

theorem may_ex : may ((1 : Nat) : Int) ((2 : Nat) : Int) (nx 3) = true := by decide
theorem and_ex : bits .and .u64 ((wd 1 2 3 : Nat) : Int) 281474976710655 = 12885032961 := by decide +kernel

set_option maxHeartbeats 1000000 in
theorem lives_any (w : World) : Calls Try.prog 7 #[] w fun r w' => r = .returned (.bool true) ∧ Below w.heap.size w w' := by
  have he : Calls Try.prog 8 #[.agg #[.int .i64 1, .int .i64 2, .int .i64 3]] w fun r w' => r = .returned (.tuple #[.int .u64 (wd 1 2 3 : Nat), .int .i64 0]) ∧ Below w.heap.size w w' := encode_yes w 1 2 3 3 (by decide) may_ex
  have HE := Lib.hid he
  have H2 := Lib.hid Crc.lives_any
  have H3 := Lib.hid Pack.lives_any
  have hx := and_ex
  generalize wd 1 2 3 = x at *
  clear he
  go_enter Try.func7, Try.ntmps7
  go_wp2_with fail
  refine HE.out.mono ?_
  rintro e w0 ⟨rfl, hb⟩
  have HB1 := Lib.hid hb
  clear hb HE
  go_wp2_with fail
  refine (H2.out _).mono ?_
  rintro e w2 ⟨rfl, hb⟩
  have HB2 := Lib.hid (HB1.out.trans (hb.mono HB1.out.size))
  clear hb HB1
  go_wp2_with fail
  refine (H3.out _).mono ?_
  rintro e w3 ⟨rfl, hb⟩
  have HB3 := Lib.hid (HB2.out.trans (hb.mono HB2.out.size))
  clear hb HB2
  go_wp2
  go_ret
  exact ⟨rfl, HB3.out⟩

set_option maxHeartbeats 1000000 in
theorem encodes_no (w : World) (s c n : Int) (hm : may s c n = false) :
    Calls Try.prog 3 #[.agg #[.int .i64 s, .int .i64 c, .int .i64 n]] w fun r w' => r = .returned (.bool true) ∧ Below w.heap.size w w' := by
  have HE := Lib.hid (fun w => encode_no w s c n hm)
  have HF := Lib.hid (fun w => refEncode_no w s c n hm)
  have HMY := Lib.hid (fun w => may_any w s c n)
  have HMF := Lib.hid hm
  have HEN := Lib.hid (fun w => end_any w s c n)
  have HE0 := Lib.hid (show fin s c n = 0 by unfold fin; rw [hm]; rfl)
  have HL := Lib.hid lives_any
  clear hm
  have HB := Lib.hid ((Below.refl w.heap.size w).alloc (Nat.le_refl _) (.cells #[.int .i64 s, .int .i64 c, .int .i64 n] 23))
  have HX := Lib.hid (boxed w s c n 23)
  go_enter Try.func3, Try.ntmps3
  go_wp2_with fail
  refine (HL.out _).mono ?_
  rintro e w0 ⟨rfl, hb⟩
  have HB0 := Lib.hid (HB.out.trans (hb.mono HB.out.size))
  have HX0 := Lib.hid (HX.out.keep hb)
  clear hb HB HX
  have hc0 := HX0.out.c0
  have hc1 := HX0.out.c1
  have hc2 := HX0.out.c2
  go_wp2_with fail
  refine (HE.out _).mono ?_
  rintro e w1 ⟨rfl, hb⟩
  have HB1 := Lib.hid (HB0.out.trans (hb.mono HB0.out.size))
  have HX1 := Lib.hid (HX0.out.keep hb)
  clear hb HB0 HX0 hc0 hc1 hc2
  have hc0 := HX1.out.c0
  have hc1 := HX1.out.c1
  have hc2 := HX1.out.c2
  go_wp2_with fail
  refine (HF.out _).mono ?_
  rintro e w2 ⟨rfl, hb⟩
  have HB2 := Lib.hid (HB1.out.trans (hb.mono HB1.out.size))
  have HX2 := Lib.hid (HX1.out.keep hb)
  clear hb HB1 HX1 hc0 hc1 hc2
  have hc0 := HX2.out.c0
  have hc1 := HX2.out.c1
  have hc2 := HX2.out.c2
  go_wp2_with fail
  refine (HMY.out _).mono ?_
  rintro e w4 ⟨rfl, hb⟩
  rw [HMF.out]
  have HB4 := Lib.hid (HB2.out.trans (hb.mono HB2.out.size))
  have HX4 := Lib.hid (HX2.out.keep hb)
  clear hb HB2 HX2 hc0 hc1 hc2
  have hc0 := HX4.out.c0
  have hc1 := HX4.out.c1
  have hc2 := HX4.out.c2
  go_wp2_with fail
  refine (HEN.out _).mono ?_
  rintro e w5 ⟨rfl, hb⟩
  rw [HE0.out]
  have HB5 := Lib.hid (HB4.out.trans (hb.mono HB4.out.size))
  clear hb HB4 HX4 hc0 hc1 hc2
  go_wp2
  go_ret
  exact ⟨rfl, HB5.out⟩

set_option maxHeartbeats 2000000 in
theorem encodes_yes (w : World) (s c q : Nat) (n : Int) (hn : n = nx q) (hm : may s c (nx q) = true) :
    Calls Try.prog 3 #[.agg #[.int .i64 (s : Int), .int .i64 (c : Int), .int .i64 n]] w fun r w' => r = .returned (.bool true) ∧ Below w.heap.size w w' := by
  obtain ⟨hs1, hc1, hsc, hq1⟩ := may_lt hm
  have HE := Lib.hid (fun w => encode_yes w s c q n hn hm)
  have HF := Lib.hid (fun w => refEncode_yes w s c q n hn hm)
  have hdd : ∀ w : World, Calls Try.prog 12 #[.int .u64 ((wd s c q : Nat) : Int)] w fun r w' => r = .returned (.tuple #[.agg #[.int .i64 (s : Int), .int .i64 (c : Int), .int .i64 n], .int .i64 0]) ∧ Below w.heap.size w w' := by
    intro w
    have h := decode_any w (wd s c q) (wd_lt (by omega) (by omega) hq1)
    rw [dec_wd hm] at h
    rw [hn]
    exact h
  have HD := Lib.hid hdd
  clear hdd
  have hml : may s c n = true := by rw [hn]; exact hm
  have HMY := Lib.hid (fun w => may_any w s c n)
  have HMF := Lib.hid hml
  have hen : ∀ w : World, Calls Try.prog 11 #[.agg #[.int .i64 (s : Int), .int .i64 (c : Int), .int .i64 n]] w fun r w' => r = .returned (.int .i64 ((s : Int) + (c : Int))) ∧ Below w.heap.size w w' := by
    intro w
    have h := end_any w s c n
    rw [show fin s c n = (s : Int) + (c : Int) by unfold fin; rw [hml]; rfl] at h
    exact h
  have HEN := Lib.hid hen
  have HL := Lib.hid lives_any
  clear hm hn hml hen
  generalize wd s c q = x at *
  have HB := Lib.hid ((Below.refl w.heap.size w).alloc (Nat.le_refl _) (.cells #[.int .i64 (s : Int), .int .i64 (c : Int), .int .i64 n] 23))
  have HX := Lib.hid (boxed w s c n 23)
  go_enter Try.func3, Try.ntmps3
  go_wp2_with fail
  refine (HL.out _).mono ?_
  rintro e w0 ⟨rfl, hb⟩
  have HB0 := Lib.hid (HB.out.trans (hb.mono HB.out.size))
  have HX0 := Lib.hid (HX.out.keep hb)
  clear hb HB HX
  have hc0 := HX0.out.c0
  have hc1' := HX0.out.c1
  have hc2 := HX0.out.c2
  go_wp2_with fail
  refine (HE.out _).mono ?_
  rintro e w1 ⟨rfl, hb⟩
  have HB1 := Lib.hid (HB0.out.trans (hb.mono HB0.out.size))
  have HX1 := Lib.hid (HX0.out.keep hb)
  clear hb HB0 HX0 hc0 hc1' hc2
  have hc0 := HX1.out.c0
  have hc1' := HX1.out.c1
  have hc2 := HX1.out.c2
  go_wp2_with fail
  refine (HF.out _).mono ?_
  rintro e w2 ⟨rfl, hb⟩
  have HB2 := Lib.hid (HB1.out.trans (hb.mono HB1.out.size))
  have HX2 := Lib.hid (HX1.out.keep hb)
  clear hb HB1 HX1 hc0 hc1' hc2
  have hc0 := HX2.out.c0
  have hc1' := HX2.out.c1
  have hc2 := HX2.out.c2
  go_wp2_with fail
  refine (HMY.out _).mono ?_
  rintro e w4 ⟨rfl, hb⟩
  rw [HMF.out]
  have HB4 := Lib.hid (HB2.out.trans (hb.mono HB2.out.size))
  have HX4 := Lib.hid (HX2.out.keep hb)
  clear hb HB2 HX2 hc0 hc1' hc2
  have hc0 := HX4.out.c0
  have hc1' := HX4.out.c1
  have hc2 := HX4.out.c2
  go_wp2_with fail
  refine (HD.out _).mono ?_
  rintro e w5 ⟨rfl, hb⟩
  have HB5 := Lib.hid (HB4.out.trans (hb.mono HB4.out.size))
  have HX5 := Lib.hid (HX4.out.keep hb)
  clear hb HB4 HX4 hc0 hc1' hc2
  have hba := (Below.refl w5.heap.size w5).alloc (Nat.le_refl _) (.cells #[.int .i64 (s : Int), .int .i64 (c : Int), .int .i64 n] 23)
  have HX6 := Lib.hid (HX5.out.keep hba)
  have HY6 := Lib.hid (boxed w5 s c n 23)
  have HB6 := Lib.hid (HB5.out.trans (hba.mono HB5.out.size))
  have hws : IntKind.wrap .i64 ((s : Int) + (c : Int)) = (s : Int) + (c : Int) := by rw [IntKind.wrap_i64]; omega
  clear hba HX5 HB5
  go_wp2
  generalize w5.alloc (.cells #[.int .i64 (s : Int), .int .i64 (c : Int), .int .i64 n] 23) = w6 at *
  generalize w5.heap.size = k5 at *
  have hc0 := HX6.out.c0
  have hc1' := HX6.out.c1
  have hc2 := HX6.out.c2
  have hd0 := HY6.out.c0
  have hd1 := HY6.out.c1
  have hd2 := HY6.out.c2
  go_region_held3 (fun W' => (W'.cell? ⟨w.heap.size, 0, none⟩ = some (.int .i64 (s : Int)) ∧ W'.cell? ⟨w.heap.size, 1, none⟩ = some (.int .i64 (c : Int)) ∧ W'.cell? ⟨w.heap.size, 2, none⟩ = some (.int .i64 n)) ∧ (W'.cell? ⟨k5, 0, none⟩ = some (.int .i64 (s : Int)) ∧ W'.cell? ⟨k5, 1, none⟩ = some (.int .i64 (c : Int)) ∧ W'.cell? ⟨k5, 2, none⟩ = some (.int .i64 n))) (go_keep)
    (first
    | (go_at_call 11
       with_reducible refine (HEN.out _).mono ?_
       rintro e w7 ⟨rfl, hb⟩
       have HX7 := Lib.hid (HX6.out.drew.keep hb)
       have HY7 := Lib.hid (HY6.out.drew.keep hb)
       have HB7 := Lib.hid (HB6.out.drew.trans (hb.mono HB6.out.drew.size))
       have hh0 := HX7.out.c0
       have hh1 := HX7.out.c1
       have hh2 := HX7.out.c2
       have hi0 := HY7.out.c0
       have hi1 := HY7.out.c1
       have hi2 := HY7.out.c2
       clear hb))
  go_wp2
  go_ret
  exact ⟨rfl, HB7.out⟩

theorem encodes_any (w : World) (s c n : Int) :
    Calls Try.prog 3 #[.agg #[.int .i64 s, .int .i64 c, .int .i64 n]] w fun r w' => r = .returned (.bool true) ∧ Below w.heap.size w w' := by
  cases hm : may s c n with
  | false => exact encodes_no w s c n hm
  | true =>
    obtain ⟨s, c, q, rfl, rfl, hn⟩ := may_nat hm
    exact encodes_yes w s c q n hn (by rw [← hn]; exact hm)
end Slo
end Go.Proofs.Ytjhmmllifecfkaa
