/- The document's Encode. -/
import Derived.Test.YtamkelcgalfkcaaRecDecode
import Derived.Test.YtamkelcgalfkcaaCrcText
namespace Go.Proofs.Ytamkelcgalfkcaa
open Go.RowKit Go.MapKept
namespace Rec
open Lin

theorem front_new (w : World) (s f t c : Nat) (hs : s < 65536) (hf : f < 65536) (ht : t < 65536) (hc : c < 18446744073709551616) : Crc.Wds (w.alloc (.cells #[.int .u64 ((nums s f t : Nat) : Int), .int .u64 (c : Int), .int .u64 0, .int .u64 0, .int .u64 0, .int .u64 0, .int .u64 0] 41)) (some ⟨w.heap.size, 0, none⟩) (front s f t c) :=
  ⟨front_u64 hs hf ht hc, by rw [front_len]; omega, fun j hj => ⟨w.heap.size, 0, rfl, by simp, by
    rw [World.cell?_alloc_mark, Nat.zero_add]
    have : j < 7 := hj
    match j, this with
    | 0, _ => rfl
    | 1, _ => rfl
    | 2, _ => rfl
    | 3, _ => rfl
    | 4, _ => rfl
    | 5, _ => rfl
    | 6, _ => rfl⟩⟩

set_option maxHeartbeats 2000000 in
set_option maxRecDepth 100000 in
theorem refEncode_gen (w : World) (s f t c N S : Nat) (F L : List Nat) (hs : s ≤ 65533) (hf : f ≤ 65533) (ht : t ≤ 65533) (hc : c ≤ 65534) (hN : (1 + 65536 * (s : Int) + 4294967296 * (f : Int) + 281474976710656 * (t : Int)) = (N : Int))
    (hF : ∀ w : World, Crc.Wds (w.alloc (.cells #[.int .u64 (N : Int), .int .u64 (c : Int), .int .u64 0, .int .u64 0, .int .u64 0, .int .u64 0, .int .u64 0] 41)) (some ⟨w.heap.size, 0, none⟩) F) (hF7 : F.length = 7)
    (hS : Crc.S32 (Crc.wflat F) = S) (hS32 : S < 4294967296) (hL : F ++ [S] = L) (hu : ∀ x ∈ F ++ [S], x < 18446744073709551616) :
    Calls Try.prog 13 #[.agg #[.int .i64 (s : Int), .int .i64 (f : Int), .int .i64 (t : Int), .int .i64 (c : Int)]] w fun r w' => ∃ (G : Option Addr) (gc : Nat), r = .returned (.slice G 8 gc) ∧ Pack.Wds w' G L ∧ Below w.heap.size w w' := by
  have HNU := Lib.hid hN
  have HFN := Lib.hid hF
  have HF7 := Lib.hid hF7
  have HSS := Lib.hid hS
  have HLL := Lib.hid hL
  have HU := Lib.hid hu
  clear hN hF hS hL hu hF7
  have HB := Lib.hid ((Below.refl w.heap.size w).alloc (Nat.le_refl _) (.cells #[.int .i64 (s : Int), .int .i64 (f : Int), .int .i64 (t : Int), .int .i64 (c : Int)] 30))
  go_enter Try.func13, Try.ntmps13
  go_wp2_with fail
  rw [HNU.out]
  have hf1 := HFN.out (w.alloc (.cells #[.int .i64 (s : Int), .int .i64 (f : Int), .int .i64 (t : Int), .int .i64 (c : Int)] 30))
  rw [World.size_alloc] at hf1
  have HF := Lib.hid hf1
  clear hf1
  generalize w.alloc (.cells #[.int .i64 (s : Int), .int .i64 (f : Int), .int .i64 (t : Int), .int .i64 (c : Int)] 30) = w1 at *
  have HB3 := Lib.hid (HB.out.alloc HB.out.size (.cells #[.int .u64 (N : Int), .int .u64 (c : Int), .int .u64 0, .int .u64 0, .int .u64 0, .int .u64 0, .int .u64 0] 41))
  clear HNU HB HFN
  generalize w1.alloc (.cells #[.int .u64 (N : Int), .int .u64 (c : Int), .int .u64 0, .int .u64 0, .int .u64 0, .int .u64 0, .int .u64 0] 41) = w3 at *
  generalize w.heap.size + 1 = g at *
  have HBY := Lib.hid (Crc.bytes_any (some ⟨g, 0, none⟩) 7 F HF.out (by rw [HF7.out]; omega))
  rw [HF7.out] at HBY
  refine HBY.out.mono ?_
  rintro e w4 ⟨rfl, hb⟩
  have HF4 := Lib.hid (HF.out.keep hb)
  have HB4 := Lib.hid (HB3.out.trans (hb.mono HB3.out.size))
  clear hb HF HB3 HBY
  have hsum := Crc.ref32_any w4 (Crc.str (Crc.wflat F)) (by rw [Crc.str_size, Crc.wflat_len, HF7.out]; omega)
  rw [Crc.tx_str (Crc.wflat_byt _), HSS.out] at hsum
  have HS := Lib.hid hsum
  clear hsum
  go_wp2_with fail
  refine HS.out.mono ?_
  rintro e w' ⟨rfl, rfl⟩
  obtain ⟨G, gc, w5, hap, hw, hb5⟩ := grow8 w4 g F S HF7.out HF4.out HU.out
  rw [HLL.out] at hw
  have HAP := Lib.hid hap
  have HW := Lib.hid hw
  have HB5 := Lib.hid (HB4.out.trans (hb5.mono HB4.out.size))
  clear hap hw hb5 HF4 HB4 HU HS
  go_wp2_with (at_builtin; refine wpList_append_run rfl (.tmp 25) (.tmp 30) 25 rfl _ _ _ rfl rfl HAP.out ?_)
  go_ret
  exact ⟨G, gc, rfl, HW.out, HB5.out⟩

theorem refEncode_yes (w : World) (s f t c : Nat) (hm : may s f t c = true) :
    Calls Try.prog 13 #[.agg #[.int .i64 (s : Int), .int .i64 (f : Int), .int .i64 (t : Int), .int .i64 (c : Int)]] w fun r w' => ∃ (G : Option Addr) (gc : Nat), r = .returned (.slice G 8 gc) ∧ Pack.Wds w' G (ln s f t c) ∧ Below w.heap.size w w' := by
  obtain ⟨h1, h2, h3, h4, h5⟩ := may_lt hm
  have hu : ∀ x ∈ front s f t c ++ [sum s f t c], x < 18446744073709551616 := full_u64 (by omega) (by omega) (by omega) (by omega)
  exact refEncode_gen w s f t c (nums s f t) (sum s f t c) (front s f t c) (ln s f t c) h1 h2 h3 h5 (by unfold nums; omega) (fun w => front_new w s f t c (by omega) (by omega) (by omega) (by omega)) (front_len _ _ _ _) rfl (sum_lt _ _ _ _) rfl hu
end Rec
end Go.Proofs.Ytamkelcgalfkcaa
