/- GeometryNeeds, walked: so many bytes take as many blocks as hold them, and no fewer do. -/
import Derived.Test.YtoagfpjaaiodgaaGeoLives
namespace Go.Proofs.Ytoagfpjaaiodgaa
open Go.RowKit Go.MapKept
namespace Geo

theorem need_small (n m k : Nat) (hn : n < 256) (hm : m < 256) (b : Int) (h : 1 ≤ b) (h2 : b ≤ 9223372036854775807) :
    1 ≤ need (1 + n) (1 + m) (sz k) b ∧ need (1 + n) (1 + m) (sz k) b ≤ 4611686018427387903 ∧ need (1 + n) (1 + m) (sz k) b - 1 ≤ (b - 1) / sz k ∧ (b - 1) / sz k ≤ need (1 + n) (1 + m) (sz k) b - 1 := by
  rw [need_yes (small_may n m k hn hm) (by omega)]
  unfold prt
  rcases sz_cases k with h | h | h <;> rw [h] <;> (split <;> omega)

set_option maxHeartbeats 1000000 in
theorem needs_any (w : World) (n m k : Nat) (b : Int) (hn : n < 256) (hm : m < 256) (hk : k < 256) (h1 : -9223372036854775808 ≤ b) (h2 : b ≤ 9223372036854775807) :
    Calls Try.prog 5 #[.int .u8 (n : Int), .int .u8 (m : Int), .int .u8 (k : Int), .int .i64 b] w fun r w' => r = .returned (.bool true) ∧ Below w.heap.size w w' := by
  have HL := Lib.hid (lives_any w)
  have HS := Lib.hid (fun w => small_any w n m k hn hm hk)
  have HN := Lib.hid (fun w => need_any w (1 + n) (1 + m) (sz k) b h2)
  have HV := Lib.hid (fun h => need_small n m k hn hm b h h2)
  have HV0 := Lib.hid (fun (h : ¬ 0 < b) => show need (1 + n) (1 + m) (sz k) b = 0 by
    by_cases h0 : 0 ≤ b
    · obtain rfl : b = 0 := by omega
      rw [need_yes (small_may n m k hn hm) (by omega)]
      simp [prt]
    · exact need_neg h0)
  have hsz := sz_cases k
  have hs1 : 1 ≤ sz k := by omega
  have hs2 : sz k ≤ 256 := by omega
  clear hsz
  go_enter Try.func5, Try.ntmps5
  go_wp2_with fail
  refine HL.out.mono ?_
  rintro e w1 ⟨rfl, hb⟩
  have HB1 := Lib.hid hb
  clear hb
  go_wp2_with fail
  refine (HS.out _).mono ?_
  rintro e w2 ⟨rfl, hb⟩
  have h3 := HB1.out.trans (hb.mono HB1.out.size)
  have HB2 := Lib.hid (h3.alloc h3.size (.cells #[.int .i64 (1 + (n : Int)), .int .i64 (1 + (m : Int)), .int .i64 (sz k)] 24))
  have HX := Lib.hid (boxed w2 (1 + n) (1 + m) (sz k) 24)
  clear hb h3
  go_wp2_with fail
  refine (HN.out _).mono ?_
  rintro e w3 ⟨rfl, hb⟩
  have HB3 := Lib.hid (HB2.out.trans (hb.mono HB2.out.size))
  have HX3 := Lib.hid (HX.out.keep hb)
  clear hb
  have hc2 := HX3.out.c2
  by_cases h : 0 < b
  · have hv := HV.out h
    generalize need (1 + n) (1 + m) (sz k) b = V at *
    generalize sz k = S at *
    obtain ⟨v1, v2, v3, v4⟩ := hv
    go_wp2
    go_ret
    exact ⟨rfl, HB3.out⟩
  · rw [HV0.out (by omega)]
    go_wp2
    go_ret
    exact ⟨rfl, HB3.out⟩
end Geo
end Go.Proofs.Ytoagfpjaaiodgaa
