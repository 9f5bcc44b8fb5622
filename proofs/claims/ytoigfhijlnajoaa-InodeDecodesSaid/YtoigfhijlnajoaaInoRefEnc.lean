/- The document's Encode. -/
import Derived.Test.YtoigfhijlnajoaaInoRef
namespace Go.Proofs.Ytoigfhijlnajoaa
open Go.RowKit Go.MapKept
namespace Ino
open Lin

theorem refEncode_no (w : World) (k h s : Int) (hm : may k h s = false) :
    Calls Try.prog 9 #[.agg #[.int .i64 k, .int .i64 h, .int .i64 s]] w fun r w' => r = .returned (.tuple #[.slice none 0 0, .bool false]) ∧ Below w.heap.size w w' := by
  have HM := Lib.hid (fun w => refMay_any w k h s)
  have HE := Lib.hid hm
  clear hm
  have HB := Lib.hid ((Below.refl w.heap.size w).alloc (Nat.le_refl _) (.cells #[.int .i64 k, .int .i64 h, .int .i64 s] 33))
  go_enter Try.func9, Try.ntmps9
  go_wp2_with fail
  refine (HM.out _).mono ?_
  rintro e w' ⟨rfl, hb⟩
  rw [HE.out]
  have HB1 := Lib.hid (HB.out.trans (hb.mono HB.out.size))
  clear hb
  go_wp2
  go_ret2
  exact ⟨rfl, HB1.out⟩

theorem refEncode_free (w : World) :
    Calls Try.prog 9 #[.agg #[.int .i64 0, .int .i64 (-1), .int .i64 0]] w fun r w' => ∃ (G : Option Addr) (gc : Nat), r = .returned (.tuple #[.slice G 8 gc, .bool true]) ∧ Pack.Wds w' G zero ∧ Below w.heap.size w w' := by
  have HM := Lib.hid (fun w => refMay_any w 0 (-1) 0)
  have HE := Lib.hid (show may 0 (-1) 0 = true by decide)
  have HB := Lib.hid ((Below.refl w.heap.size w).alloc (Nat.le_refl _) (.cells #[.int .i64 0, .int .i64 (-1), .int .i64 0] 33))
  have HX := Lib.hid (boxed w 0 (-1) 0 33)
  go_enter Try.func9, Try.ntmps9
  go_wp2_with fail
  refine (HM.out _).mono ?_
  rintro e w1 ⟨rfl, hb⟩
  rw [HE.out]
  have HB1 := Lib.hid (HB.out.trans (hb.mono HB.out.size))
  have HX1 := Lib.hid (HX.out.keep hb)
  have hc0 := HX1.out.c0
  clear hb HX
  have hmk := run_make_row' (P := Try.prog) 26 45 _ 8 Try.underlying26 Pack.u64_info rfl .i64 .i64 8 (by omega) (by omega) w1
  rw [show ((8 : Nat) : Int) = 8 from rfl] at hmk
  go_wp2
  go_ret2
  exact ⟨some ⟨w1.heap.size, 0, none⟩, 8, rfl, row_pack (row_zero (row_made w1)) rfl zero_u64, HB1.out.alloc HB1.out.size _⟩

theorem front_new (w : World) (k p s : Nat) (h : Int) (hh : h = (p : Int) - 1) (hk : k < 65536) (hp : p < 65536) (hs : s < 18446744073709551616) : Crc.Wds (w.alloc (.cells #[.int .u64 ((k : Int) + 65536 * (h + 1)), .int .u64 (s : Int), .int .u64 0, .int .u64 0, .int .u64 0, .int .u64 0, .int .u64 0] 45)) (some ⟨w.heap.size, 0, none⟩) (front k p s) :=
  ⟨front_u64 hk hp hs, by rw [front_len]; omega, fun j hj => ⟨w.heap.size, 0, rfl, by simp, by
    rw [World.cell?_alloc_mark, Nat.zero_add]
    have : j < 7 := hj
    have e : (k : Int) + 65536 * (h + 1) = ((nums k p : Nat) : Int) := by unfold nums; omega
    match j, this with
    | 0, _ => rw [e]; rfl
    | 1, _ => rfl
    | 2, _ => rfl
    | 3, _ => rfl
    | 4, _ => rfl
    | 5, _ => rfl
    | 6, _ => rfl⟩⟩

set_option maxHeartbeats 2000000 in
set_option maxRecDepth 100000 in
theorem refEncode_full (w : World) (k p s : Nat) (h : Int) (hh : h = (p : Int) - 1) (hk0 : k ≠ 0) (hm : may k ((p : Int) - 1) s = true) :
    Calls Try.prog 9 #[.agg #[.int .i64 (k : Int), .int .i64 h, .int .i64 (s : Int)]] w fun r w' => ∃ (G : Option Addr) (gc : Nat), r = .returned (.tuple #[.slice G 8 gc, .bool true]) ∧ Pack.Wds w' G (full k p s) ∧ Below w.heap.size w w' := by
  obtain ⟨h1, h2, h3⟩ := may_lt hm
  have HM := Lib.hid (fun w => refMay_any w k h s)
  have HE := Lib.hid (show may k h s = true by rw [hh]; exact hm)
  have hki : ¬ (k : Int) = 0 := by omega
  have hs64 : s < 18446744073709551616 := by omega
  have hk64 : k < 65536 := by omega
  have hp64 : p < 65536 := by omega
  have hhl : -1 ≤ h := by omega
  have hhu : h ≤ 65533 := by omega
  have HH := Lib.hid hh
  clear hm hh
  have HB := Lib.hid ((Below.refl w.heap.size w).alloc (Nat.le_refl _) (.cells #[.int .i64 (k : Int), .int .i64 h, .int .i64 (s : Int)] 33))
  have HX := Lib.hid (boxed w k h s 33)
  go_enter Try.func9, Try.ntmps9
  go_wp2_with fail
  refine (HM.out _).mono ?_
  rintro e w1 ⟨rfl, hb⟩
  rw [HE.out]
  have HB1 := Lib.hid (HB.out.trans (hb.mono HB.out.size))
  have HX1 := Lib.hid (HX.out.keep hb)
  have hc0 := HX1.out.c0
  have hc1 := HX1.out.c1
  have hc2 := HX1.out.c2
  clear hb HX
  go_wp2_with fail
  have HF := Lib.hid (front_new w1 k p s h HH.out hk64 hp64 hs64)
  have HB3 := Lib.hid (HB1.out.alloc HB1.out.size (.cells #[.int .u64 ((k : Int) + 65536 * (h + 1)), .int .u64 (s : Int), .int .u64 0, .int .u64 0, .int .u64 0, .int .u64 0, .int .u64 0] 45))
  clear hc0 hc1 hc2 HX1 HB1
  generalize w1.alloc (.cells #[.int .u64 ((k : Int) + 65536 * (h + 1)), .int .u64 (s : Int), .int .u64 0, .int .u64 0, .int .u64 0, .int .u64 0, .int .u64 0] 45) = w3 at *
  generalize w1.heap.size = g at *
  refine (Crc.bytes_any _ 7 _ HF.out (by rw [front_len]; omega)).mono ?_
  rintro e w4 ⟨rfl, hb⟩
  have HF4 := Lib.hid (HF.out.keep hb)
  have HB4 := Lib.hid (HB3.out.trans (hb.mono HB3.out.size))
  clear hb HF HB3 HB
  have hsum := Crc.ref32_any w4 (Crc.str (Crc.wflat (front k p s))) (by rw [Crc.str_size, Crc.wflat_len, front_len]; omega)
  rw [Crc.tx_str (Crc.wflat_byt _), show Crc.S32 (Crc.wflat (front k p s)) = sum k p s from rfl] at hsum
  have HS := Lib.hid hsum
  clear hsum
  have hlt := sum_lt k p s
  go_wp2_with fail
  refine HS.out.mono ?_
  rintro e w' ⟨rfl, rfl⟩
  obtain ⟨G, gc, w5, hap, hw, hb5⟩ := grow8 w4 g (front k p s) (sum k p s) (front_len _ _ _) HF4.out (full_u64 hk64 hp64 hs64)
  have HAP := Lib.hid hap
  have HW := Lib.hid hw
  have HB5 := Lib.hid (HB4.out.trans (hb5.mono HB4.out.size))
  clear hap hw hb5 HF4 HB4
  go_wp2_with (at_builtin; refine wpList_append_run rfl (.tmp 25) (.tmp 30) 26 rfl _ _ _ rfl rfl HAP.out ?_)
  go_ret2
  exact ⟨G, gc, rfl, HW.out, HB5.out⟩

theorem refEncode_yes (w : World) (k p s : Nat) (h : Int) (hh : h = (p : Int) - 1) (hm : may k ((p : Int) - 1) s = true) :
    Calls Try.prog 9 #[.agg #[.int .i64 (k : Int), .int .i64 h, .int .i64 (s : Int)]] w fun r w' => ∃ (G : Option Addr) (gc : Nat), r = .returned (.tuple #[.slice G 8 gc, .bool true]) ∧ Pack.Wds w' G (ln k p s) ∧ Below w.heap.size w w' := by
  by_cases hk : k = 0
  · subst hk
    obtain ⟨rfl, rfl⟩ := may_free hm
    subst hh
    rw [ln_zero]
    exact refEncode_free w
  · rw [ln_full hk]
    exact refEncode_full w k p s h hh hk hm
end Ino
end Go.Proofs.Ytoigfhijlnajoaa
