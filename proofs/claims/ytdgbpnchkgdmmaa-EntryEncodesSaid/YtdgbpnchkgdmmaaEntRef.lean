/- The document's Encode. -/
import Derived.Test.YtdgbpnchkgdmmaaEntDecode
namespace Go.Proofs.Ytdgbpnchkgdmmaa
open Go.RowKit Go.MapKept
namespace Ent

theorem tx_append (S T : ByteArray) : Crc.tx (S ++ T) = Crc.tx S ++ Crc.tx T := by
  unfold Crc.tx
  rw [ByteArray.data_append, Array.toList_append, List.map_append]
theorem tx_inj {S T : ByteArray} (h : Crc.tx S = Crc.tx T) : S = T := by rw [← str_tx S, ← str_tx T, h]

theorem bts_one (w : World) (x : Nat) (hx : x < 256) : Crc.Bts (w.alloc (.cells #[.int .u8 (x : Int)] 5)) (some ⟨w.heap.size, 0, none⟩) [x] :=
  ⟨fun y hy => by
    obtain rfl : y = x := by simpa using hy
    exact hx, by simp, fun j hj => ⟨w.heap.size, 0, rfl, by simp, by
    have : j < 1 := hj
    match j, this with
    | 0, _ => exact Crc.alloc_cell _ _ _ _⟩⟩
theorem bts_four (w : World) (x y z u : Nat) (hx : x < 256) (hy : y < 256) (hz : z < 256) (hu : u < 256) : Crc.Bts (w.alloc (.cells #[.int .u8 (x : Int), .int .u8 (y : Int), .int .u8 (z : Int), .int .u8 (u : Int)] 5)) (some ⟨w.heap.size, 0, none⟩) [x, y, z, u] :=
  ⟨fun q hq => by
    simp only [List.mem_cons, List.not_mem_nil, or_false] at hq
    omega, by simp, fun j hj => ⟨w.heap.size, 0, rfl, by simp, by
    have : j < 4 := hj
    match j, this with
    | 0, _ => exact Crc.alloc_cell _ _ _ _
    | 1, _ => exact Crc.alloc_cell _ _ _ _
    | 2, _ => exact Crc.alloc_cell _ _ _ _
    | 3, _ => exact Crc.alloc_cell _ _ _ _⟩⟩
theorem conv_one (w : World) (x : Nat) (hx : x < 256) : (convert 29 9 (.slice (some ⟨w.heap.size, 0, none⟩) 1 1)).run Try.prog (w.alloc (.cells #[.int .u8 (x : Int)] 5)) = .ok (.string (Crc.str [x])) (w.alloc (.cells #[.int .u8 (x : Int)] 5)) := Crc.conv_str 1 (bts_one w x hx)
theorem conv_four (w : World) (x y z u : Nat) (hx : x < 256) (hy : y < 256) (hz : z < 256) (hu : u < 256) : (convert 29 9 (.slice (some ⟨w.heap.size, 0, none⟩) 4 4)).run Try.prog (w.alloc (.cells #[.int .u8 (x : Int), .int .u8 (y : Int), .int .u8 (z : Int), .int .u8 (u : Int)] 5)) = .ok (.string (Crc.str [x, y, z, u])) (w.alloc (.cells #[.int .u8 (x : Int), .int .u8 (y : Int), .int .u8 (z : Int), .int .u8 (u : Int)] 5)) := Crc.conv_str 4 (bts_four w x y z u hx hy hz hu)

theorem byt_zero : Crc.Byt [0] := by
  unfold Crc.Byt
  decide

set_option maxHeartbeats 2000000 in
set_option maxRecDepth 100000 in
theorem refEncode_any (w : World) (s : ByteArray) (k : Nat) (hm : may (Crc.tx s) (k : Int) = true) :
    Calls Try.prog 16 #[.agg #[.string s, .int .i64 (k : Int)]] w fun r w' => r = .returned (.string (Crc.str (enc (Crc.tx s) k))) ∧ Below w.heap.size w w' := by
  have hl := may_len hm
  obtain ⟨k', ek, hk⟩ := may_nat hm
  obtain rfl : k = k' := by omega
  have hsz : s.size ≤ 48 := by rw [Crc.tx_len] at hl; exact hl
  clear hm hl ek
  have HB := Lib.hid ((Below.refl w.heap.size w).alloc (Nat.le_refl _) (.cells #[.string s, .int .i64 (k : Int)] 28))
  have HX := Lib.hid (boxed w s k 28)
  have hcv := conv_four (w.alloc (.cells #[.string s, .int .i64 (k : Int)] 28)) (k % 256) (k / 256) s.size 0 (by omega) (by omega) (by omega) (by omega)
  rw [World.size_alloc] at hcv
  have e1 : (((k % 256 : Nat)) : Int) = (k : Int) % 256 := rfl
  have e2 : (((k / 256 : Nat)) : Int) = (k : Int) / 256 := rfl
  have e3 : (s.size : Int) % 256 = (s.size : Int) := by omega
  rw [e1, e2, show ((0 : Nat) : Int) = 0 from rfl] at hcv
  obtain ⟨T0, hT0⟩ : ∃ T0, T0 = Crc.str [k % 256, k / 256, s.size, 0] := ⟨_, rfl⟩
  rw [← hT0] at hcv
  have htx : Crc.tx (T0 ++ s) = [k % 256, k / 256 % 256, (Crc.tx s).length, 0] ++ Crc.tx s := by
    rw [tx_append, hT0, Crc.tx_str (fun q hq => by simp only [List.mem_cons, List.not_mem_nil, or_false] at hq; omega), Crc.tx_len, Nat.mod_eq_of_lt (show k / 256 < 256 by omega)]
  have HTX := Lib.hid htx
  have hp : (Crc.tx (T0 ++ s)).length = 4 + s.size := by rw [htx, List.length_append, Crc.tx_len]; simp
  have HP := Lib.hid hp
  have hcb := (HB.out.alloc (by simp) (.cells #[.int .u8 ((k : Int) % 256), .int .u8 ((k : Int) / 256), .int .u8 (s.size : Int), .int .u8 0] 5))
  have HC := Lib.hid hcb
  have hT4 : T0.size ≤ 4 := by rw [hT0, Crc.str_size]; simp
  clear e1 e2 hT0 htx hp hcb
  go_enter Try.func16, Try.ntmps16
  go_wp2
  clear hcv
  generalize T0 ++ s = S0 at *
  generalize (w.alloc (.cells #[.string s, .int .i64 (k : Int)] 28)).alloc (.cells #[.int .u8 ((k : Int) % 256), .int .u8 ((k : Int) / 256), .int .u8 (s.size : Int), .int .u8 0] 5) = w1 at *
  go_loopw [3] (fun v wr => ∃ (m : Nat) (S : ByteArray), S.size = 4 + s.size + m ∧ 4 + s.size + m ≤ 60 ∧ v = .string S ∧ Crc.tx S = Crc.tx S0 ++ List.replicate m 0 ∧ Below w.heap.size w wr) (fun v _ => 60 - (match v with | .string S => S.size | _ => 0))
  case atStart => exact ⟨0, S0, by rw [← Crc.tx_len, HP.out]; rfl, by omega, rfl, by simp, HC.out⟩
  case round =>
    obtain ⟨m, S, hS, hm, rfl, hT, hb⟩ := hrel
    have HT := Lib.hid hT
    have HB1 := Lib.hid hb
    have HS := Lib.hid hS
    clear hT hb
    by_cases hlt : 4 + s.size + m < 60
    · have hS1 : S.size < 60 := by omega
      have hc1 := conv_one wr 0 (by omega)
      rw [show ((0 : Nat) : Int) = 0 from rfl] at hc1
      have HQ := Lib.hid (HB1.out.alloc HB1.out.size (.cells #[.int .u8 0] 5))
      have HE := Lib.hid (show Crc.tx (S ++ Crc.str [0]) = Crc.tx S0 ++ List.replicate (m + 1) 0 by
        rw [tx_append, HT.out, Crc.tx_str byt_zero, List.append_assoc, List.replicate_succ'])
      have hZ1 : (Crc.str [0]).size ≤ 1 := by rw [Crc.str_size]; simp
      have HZ := Lib.hid (show (Crc.str [0]).size = 1 by rw [Crc.str_size]; rfl)
      clear hS
      generalize Crc.str [0] = Z at *
      go_wp2
      refine ⟨⟨m + 1, S ++ Z, ?_, by omega, rfl, HE.out, HQ.out⟩, ?_⟩
      · rw [ByteArray.size_append, HS.out, HZ.out]
        omega
      · have h1 := HS.out
        have h2 := HZ.out
        simp only [ByteArray.size_append]
        omega
    · have hS1 : 60 ≤ S.size := by omega
      have hS2 : S.size ≤ 60 := by omega
      have hm60 : m = 56 - s.size := by omega
      have HF := Lib.hid (show Crc.tx S = front (Crc.tx s) k by
        rw [HT.out, HTX.out, hm60]
        unfold front
        rw [Crc.tx_len])
      clear hS hm60 hlt
      go_wp2_with fail
      refine (Crc.ref32_any _ S (by omega)).mono ?_
      rintro e w' ⟨rfl, rfl⟩
      have hxl := s32_lt (Crc.tx S)
      have HX4 := Lib.hid (show Crc.tx S ++ q4 (Crc.S32 (Crc.tx S)) = enc (Crc.tx s) k by rw [HF.out]; rfl)
      generalize Crc.S32 (Crc.tx S) = x at *
      have hc4 := conv_four wr (x % 256) (x / 256 % 256) (x / 65536 % 256) (x / 16777216) (by omega) (by omega) (by omega) (by omega)
      rw [show (((x % 256 : Nat)) : Int) = (x : Int) % 256 from rfl, show (((x / 256 % 256 : Nat)) : Int) = (x : Int) / 256 % 256 from rfl, show (((x / 65536 % 256 : Nat)) : Int) = (x : Int) / 65536 % 256 from rfl, show (((x / 16777216 : Nat)) : Int) = (x : Int) / 16777216 from rfl] at hc4
      have hz4 : (Crc.str [x % 256, x / 256 % 256, x / 65536 % 256, x / 16777216]).size ≤ 4 := by rw [Crc.str_size]; simp
      have HQ4 := Lib.hid (show Crc.tx (Crc.str [x % 256, x / 256 % 256, x / 65536 % 256, x / 16777216]) = q4 x by
        rw [Crc.tx_str (fun q hq => by simp only [List.mem_cons, List.not_mem_nil, or_false] at hq; omega)]
        unfold q4
        rw [Nat.mod_eq_of_lt (show x / 16777216 < 256 by omega)])
      have HB5 := Lib.hid (HB1.out.alloc HB1.out.size (.cells #[.int .u8 ((x : Int) % 256), .int .u8 ((x : Int) / 256 % 256), .int .u8 ((x : Int) / 65536 % 256), .int .u8 ((x : Int) / 16777216)] 5))
      generalize Crc.str [x % 256, x / 256 % 256, x / 65536 % 256, x / 16777216] = Z at *
      go_wp2
      go_ret
      refine ⟨?_, HB5.out⟩
      have : S ++ Z = Crc.str (enc (Crc.tx s) k) := by
        rw [← HX4.out, ← HQ4.out, ← tx_append, str_tx]
      rw [← this]
      rfl
end Ent
end Go.Proofs.Ytdgbpnchkgdmmaa
