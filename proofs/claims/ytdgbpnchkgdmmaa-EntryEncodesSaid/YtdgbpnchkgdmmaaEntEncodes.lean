/- EntryEncodes, walked. -/
import Derived.Test.YtdgbpnchkgdmmaaEntLives
namespace Go.Proofs.Ytdgbpnchkgdmmaa
open Go.RowKit Go.MapKept
namespace Ent

set_option maxHeartbeats 1000000 in
theorem encodes_long (w : World) (s : ByteArray) (i : Int) (hs : s.size ≤ 9223372036854775807) (hf : few [(s, i)] = false) :
    Calls Try.prog 3 #[.agg #[.string s, .int .i64 i]] w fun r w' => r = .returned (.bool true) ∧ Below w.heap.size w w' := by
  have HL := Lib.hid lives_any
  have HF := Lib.hid hf
  clear hf
  have HB := Lib.hid ((Below.refl w.heap.size w).alloc (Nat.le_refl _) (.cells #[.string s, .int .i64 i] 23))
  have HX := Lib.hid (boxed w s i 23)
  go_enter Try.func3, Try.ntmps3
  go_wp2_with fail
  refine (HL.out _).mono ?_
  rintro e w1 ⟨rfl, hb⟩
  have HB1 := Lib.hid (HB.out.trans (hb.mono HB.out.size))
  have HX1 := Lib.hid (HX.out.keep hb)
  clear hb HB HX
  have hc0 := HX1.out.c0
  have hc1 := HX1.out.c1
  go_wp2_with fail
  refine (few_any _ _ 1 1 [(s, i)] (es_one w1 s i 23 hs) rfl).mono ?_
  rintro e w2 ⟨rfl, hb⟩
  rw [HF.out]
  have HB2 := Lib.hid ((HB1.out.alloc HB1.out.size _).trans (hb.mono (HB1.out.alloc HB1.out.size _).size))
  clear hb HX1 hc0 hc1 HB1
  go_wp2_with fail
  refine (HL.out _).mono ?_
  rintro e w3 ⟨rfl, hb⟩
  have HB3 := Lib.hid (HB2.out.trans (hb.mono HB2.out.size))
  clear hb
  go_wp2
  go_ret
  exact ⟨rfl, HB3.out⟩

set_option maxHeartbeats 2000000 in
set_option maxRecDepth 100000 in
theorem encodes_no (w : World) (s : ByteArray) (i : Int) (hs : s.size ≤ 9223372036854775807) (hf : few [(s, i)] = true) (hm : may (Crc.tx s) i = false) :
    Calls Try.prog 3 #[.agg #[.string s, .int .i64 i]] w fun r w' => r = .returned (.bool true) ∧ Below w.heap.size w w' := by
  have HL := Lib.hid lives_any
  have HF := Lib.hid hf
  have HE := Lib.hid (fun w => encode_no w s i hs hm)
  have HMY := Lib.hid (fun w => may_any w s i hs)
  have HRM := Lib.hid (fun w => refMay_any w s i hs)
  have HR1 := Lib.hid (fun w => right_any w s hs)
  have HR2 := Lib.hid (fun w => refRight_any w s hs)
  rw [hm] at HMY HRM
  clear hf hm
  have HB := Lib.hid ((Below.refl w.heap.size w).alloc (Nat.le_refl _) (.cells #[.string s, .int .i64 i] 23))
  have HX := Lib.hid (boxed w s i 23)
  go_enter Try.func3, Try.ntmps3
  go_wp2_with fail
  refine (HL.out _).mono ?_
  rintro e w1 ⟨rfl, hb⟩
  have HB1 := Lib.hid (HB.out.trans (hb.mono HB.out.size))
  have HX1 := Lib.hid (HX.out.keep hb)
  clear hb HB HX
  have hc0 := HX1.out.c0
  have hc1 := HX1.out.c1
  go_wp2_with fail
  refine (few_any _ _ 1 1 [(s, i)] (es_one w1 s i 23 hs) rfl).mono ?_
  rintro e w2 ⟨rfl, hb⟩
  rw [HF.out]
  have hba := (Below.refl w1.heap.size w1).alloc (Nat.le_refl _) (.cells #[.string s, .int .i64 i] 23)
  have HB2 := Lib.hid ((HB1.out.alloc HB1.out.size _).trans (hb.mono (HB1.out.alloc HB1.out.size _).size))
  have HX2 := Lib.hid ((HX1.out.keep hba).keep hb)
  clear hb hba HX1 hc0 hc1 HB1
  have hc0 := HX2.out.c0
  have hc1 := HX2.out.c1
  go_wp2_with fail
  refine (HRM.out _).mono ?_
  rintro e w3 ⟨rfl, hb⟩
  have HB3 := Lib.hid (HB2.out.trans (hb.mono HB2.out.size))
  have HX3 := Lib.hid (HX2.out.keep hb)
  clear hb HX2 hc0 hc1 HB2
  have hc0 := HX3.out.c0
  have hc1 := HX3.out.c1
  go_wp2_with fail
  refine (HE.out _).mono ?_
  rintro e w4 ⟨rfl, hb⟩
  have HB4 := Lib.hid (HB3.out.trans (hb.mono HB3.out.size))
  have HX4 := Lib.hid (HX3.out.keep hb)
  clear hb HX3 hc0 hc1 HB3
  have hc0 := HX4.out.c0
  have hc1 := HX4.out.c1
  generalize right (Crc.tx s) = rr at *
  go_wp2
  go_region_held3 (fun W' => W'.cell? ⟨w.heap.size, 0, none⟩ = some (.string s) ∧ W'.cell? ⟨w.heap.size, 1, none⟩ = some (.int .i64 i)) (go_keep)
    (first
    | (go_at_call 12
       with_reducible refine (HR1.out _).mono ?_
       rintro e w' ⟨rfl, rfl⟩)
    | (go_at_call 13
       with_reducible refine (HR2.out _).mono ?_
       rintro e w' ⟨rfl, rfl⟩)
    | (go_at_call 14
       with_reducible refine (HMY.out _).mono ?_
       rintro e w5 ⟨rfl, hb⟩
       have HX5 := Lib.hid (HX4.out.drew.keep hb)
       have HB5 := Lib.hid (HB4.out.drew.trans (hb.mono HB4.out.drew.size))
       have hh0 := HX5.out.c0
       have hh1 := HX5.out.c1
       clear hb))
  go_wp2
  go_ret
  exact ⟨rfl, HB5.out⟩
set_option maxHeartbeats 2000000 in
set_option maxRecDepth 100000 in
theorem encodes_yes (w : World) (s : ByteArray) (k : Nat) (hs : s.size ≤ 9223372036854775807) (hf : few [(s, (k : Int))] = true) (hm : may (Crc.tx s) (k : Int) = true) :
    Calls Try.prog 3 #[.agg #[.string s, .int .i64 (k : Int)]] w fun r w' => r = .returned (.bool true) ∧ Below w.heap.size w w' := by
  have HL := Lib.hid lives_any
  have HF := Lib.hid hf
  have HE := Lib.hid (fun w => encode_yes w s k hm)
  have HMY := Lib.hid (fun w => may_any w s k hs)
  have HRM := Lib.hid (fun w => refMay_any w s k hs)
  have HR1 := Lib.hid (fun w => right_any w s hs)
  have HR2 := Lib.hid (fun w => refRight_any w s hs)
  rw [hm] at HMY HRM
  have HRE := Lib.hid (fun w => refEncode_any w s k hm)
  have HL48 := Lib.hid (may_len hm)
  have HDE := Lib.hid (dec_enc hm)
  clear hf hm
  have HB := Lib.hid ((Below.refl w.heap.size w).alloc (Nat.le_refl _) (.cells #[.string s, .int .i64 (k : Int)] 23))
  have HX := Lib.hid (boxed w s k 23)
  go_enter Try.func3, Try.ntmps3
  go_wp2_with fail
  refine (HL.out _).mono ?_
  rintro e w1 ⟨rfl, hb⟩
  have HB1 := Lib.hid (HB.out.trans (hb.mono HB.out.size))
  have HX1 := Lib.hid (HX.out.keep hb)
  clear hb HB HX
  have hc0 := HX1.out.c0
  have hc1 := HX1.out.c1
  go_wp2_with fail
  refine (few_any _ _ 1 1 [(s, (k : Int))] (es_one w1 s k 23 hs) rfl).mono ?_
  rintro e w2 ⟨rfl, hb⟩
  rw [HF.out]
  have hba := (Below.refl w1.heap.size w1).alloc (Nat.le_refl _) (.cells #[.string s, .int .i64 (k : Int)] 23)
  have HB2 := Lib.hid ((HB1.out.alloc HB1.out.size _).trans (hb.mono (HB1.out.alloc HB1.out.size _).size))
  have HX2 := Lib.hid ((HX1.out.keep hba).keep hb)
  clear hb hba HX1 hc0 hc1 HB1
  have hc0 := HX2.out.c0
  have hc1 := HX2.out.c1
  go_wp2_with fail
  refine (HRM.out _).mono ?_
  rintro e w3 ⟨rfl, hb⟩
  have HB3 := Lib.hid (HB2.out.trans (hb.mono HB2.out.size))
  have HX3 := Lib.hid (HX2.out.keep hb)
  clear hb HX2 hc0 hc1 HB2
  have hc0 := HX3.out.c0
  have hc1 := HX3.out.c1
  go_wp2_with fail
  refine (HE.out _).mono ?_
  rintro e w4 ⟨g, hg, rfl, hr, hb⟩
  have HR4 := Lib.hid hr
  clear hg hr
  have HB4 := Lib.hid (HB3.out.trans (hb.mono HB3.out.size))
  have HX4 := Lib.hid (HX3.out.keep hb)
  clear hb HX3 hc0 hc1 HB3
  have hc0 := HX4.out.c0
  have hc1 := HX4.out.c1
  generalize right (Crc.tx s) = rr at *
  go_wp2
  go_region_held3 (fun W' => W'.cell? ⟨w.heap.size, 0, none⟩ = some (.string s) ∧ W'.cell? ⟨w.heap.size, 1, none⟩ = some (.int .i64 (k : Int))) (go_keep)
    (first
    | (go_at_call 12
       with_reducible refine (HR1.out _).mono ?_
       rintro e w' ⟨rfl, rfl⟩)
    | (go_at_call 13
       with_reducible refine (HR2.out _).mono ?_
       rintro e w' ⟨rfl, rfl⟩)
    | (go_at_call 14
       with_reducible refine (HMY.out _).mono ?_
       rintro e w5 ⟨rfl, hb⟩
       have HX5 := Lib.hid (HX4.out.drew.keep hb)
       have HB5 := Lib.hid (HB4.out.drew.trans (hb.mono HB4.out.drew.size))
       have hh0 := HX5.out.c0
       have hh1 := HX5.out.c1
       have HR5 := Lib.hid (HR4.out.drew.keep hb)
       clear hb))
  clear hh0 hh1 hc0 hc1 HX4 HB4 HR4
  have HD5 := Lib.hid (decode_any w5 (some ⟨g, 0, none⟩) 64 64 (enc (Crc.tx s) k) (row_enc HR5.out (enc_len HL48.out k) (enc_byt (Crc.tx_byt s) HL48.out k)) (enc_len HL48.out k).symm (by omega))
  rw [HDE.out] at HD5
  simp only [gv, ev, str_tx] at HD5
  go_wp2_with fail
  refine HD5.out.mono ?_
  rintro e w6 ⟨rfl, hb⟩
  have HB6 := Lib.hid (HB5.out.trans (hb.mono HB5.out.size))
  have HX6 := Lib.hid (HX5.out.keep hb)
  have HR6 := Lib.hid (HR5.out.keep hb)
  clear hb HX5 HB5 HR5 HD5
  have hba := (Below.refl w6.heap.size w6).alloc (Nat.le_refl _) (.cells #[.string s, .int .i64 (k : Int)] 23)
  have HX7 := Lib.hid (HX6.out.keep hba)
  have HY7 := Lib.hid (boxed w6 s k 23)
  have HB7 := Lib.hid (HB6.out.trans (hba.mono HB6.out.size))
  have HR7 := Lib.hid (HR6.out.keep hba)
  clear hba HX6 HB6 HR6
  go_wp2
  generalize w6.alloc (.cells #[.string s, .int .i64 (k : Int)] 23) = w7 at *
  generalize w6.heap.size = k6 at *
  have HCV := Lib.hid (fun (W : World) (hW : Row W g (at' (enc (Crc.tx s) k))) => show (convert 29 9 (.slice (some ⟨g, 0, none⟩) 64 64)).run Try.prog W = .ok (.string (Crc.str (enc (Crc.tx s) k))) W by
    have := Crc.conv_str 64 (row_enc hW (enc_len HL48.out k) (enc_byt (Crc.tx_byt s) HL48.out k))
    rwa [enc_len HL48.out k] at this)
  have hcv := HCV.out _ HR7.out.drew
  have hc0 := HX7.out.c0
  have hc1 := HX7.out.c1
  have hd0 := HY7.out.c0
  have hd1 := HY7.out.c1
  generalize Crc.str (enc (Crc.tx s) k) = E at *
  go_region_held3 (fun W' => (convert 29 9 (.slice (some ⟨g, 0, none⟩) 64 64)).run Try.prog W' = .ok (.string E) W' ∧ (W'.cell? ⟨w.heap.size, 0, none⟩ = some (.string s) ∧ W'.cell? ⟨w.heap.size, 1, none⟩ = some (.int .i64 (k : Int))) ∧ (W'.cell? ⟨k6, 0, none⟩ = some (.string s) ∧ W'.cell? ⟨k6, 1, none⟩ = some (.int .i64 (k : Int)))) (first | exact ⟨by assumption, by go_keep⟩ | go_keep)
    (first
    | (go_at_call 16
       with_reducible refine (HRE.out _).mono ?_
       rintro e w8 ⟨rfl, hb⟩
       have HX8 := Lib.hid (HX7.out.drew.keep hb)
       have HY8 := Lib.hid (HY7.out.drew.keep hb)
       have HB8 := Lib.hid (HB7.out.drew.trans (hb.mono HB7.out.drew.size))
       have hcv8 := HCV.out _ (HR7.out.drew.keep hb)
       have hh0 := HX8.out.c0
       have hh1 := HX8.out.c1
       have hi0 := HY8.out.c0
       have hi1 := HY8.out.c1
       clear hb))
  go_wp2
  go_ret
  exact ⟨rfl, HB8.out⟩

theorem encodes_any (w : World) (s : ByteArray) (i : Int) (hs : s.size ≤ 9223372036854775807) :
    Calls Try.prog 3 #[.agg #[.string s, .int .i64 i]] w fun r w' => r = .returned (.bool true) ∧ Below w.heap.size w w' := by
  cases hf : few [(s, i)] with
  | false => exact encodes_long w s i hs hf
  | true =>
    cases hm : may (Crc.tx s) i with
    | false => exact encodes_no w s i hs hf hm
    | true =>
      obtain ⟨k, rfl, _⟩ := may_nat hm
      exact encodes_yes w s k hs hf hm
end Ent
end Go.Proofs.Ytdgbpnchkgdmmaa
