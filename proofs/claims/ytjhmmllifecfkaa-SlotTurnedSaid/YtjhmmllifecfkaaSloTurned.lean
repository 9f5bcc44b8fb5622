/- SlotTurned, walked. -/
import Derived.Test.YtjhmmllifecfkaaSloTurn
namespace Go.Proofs.Ytjhmmllifecfkaa
open Go.RowKit Go.MapKept
namespace Slo
open Lin

/-- the slot that the law makes, and its word -/
theorem made (st ct nt : Nat) : ∃ x : Nat, x < 18446744073709551616 ∧ x / 281474976710656 = Crc.S16 (six x) ∧ ∀ W : World, Calls Try.prog 8 #[.agg #[.int .i64 ((st : Int) % 60000), .int .i64 (1 + (ct : Int) % 5000), .int .i64 ((nt : Int) % 65535 - 1)]] W fun r w' => r = .returned (.tuple #[.int .u64 (x : Int), .int .i64 0]) ∧ Below W.heap.size W w' := by
  obtain ⟨s, hs⟩ : ∃ s : Nat, (s : Int) = (st : Int) % 60000 := ⟨st % 60000, by omega⟩
  obtain ⟨c, hc⟩ : ∃ c : Nat, (c : Int) = 1 + (ct : Int) % 5000 := ⟨1 + ct % 5000, by omega⟩
  obtain ⟨q, hq⟩ : ∃ q : Nat, (nt : Int) % 65535 - 1 = nx q := by
    by_cases h : nt % 65535 = 0
    · exact ⟨65535, by rw [nx_none]; omega⟩
    · exact ⟨nt % 65535 - 1, by rw [nx_some (by omega)]; omega⟩
  have hm : may s c (nx q) = true := may_iff.2 (by unfold May; omega)
  obtain ⟨h1, h2, h3, h4⟩ := may_lt hm
  refine ⟨wd s c q, wd_lt (by omega) (by omega) h4, wd_good (by omega) (by omega) h4, fun W => ?_⟩
  rw [← hs, ← hc]
  exact encode_yes W s c q _ hq hm

theorem tells_none (w : World) (y : Nat) (hy : y < 18446744073709551616) (h : dec y = none) : Calls Try.prog 12 #[.int .u64 (y : Int)] w fun r w' => r = .returned (.tuple #[.agg #[.int .i64 0, .int .i64 0, .int .i64 0], .int .i64 2]) ∧ Below w.heap.size w w' := by
  have hd := decode_any w y hy
  rw [h] at hd
  exact hd

set_option maxHeartbeats 600000 in
set_option maxRecDepth 100000 in
theorem turned_any (w : World) (st ct nt at_ mask : Nat) (h1 : st < 65536) (h2 : ct < 65536) (h3 : nt < 65536) (h4 : at_ < 256) (h5 : mask < 65536) :
    Calls Try.prog 5 #[.int .u16 (st : Int), .int .u16 (ct : Int), .int .u16 (nt : Int), .int .u8 (at_ : Int), .int .u16 (mask : Int)] w fun r w' => r = .returned (.bool true) ∧ Below w.heap.size w w' := by
  have HL := Lib.hid lives_any
  obtain ⟨x, hx, hgood, henc⟩ := made st ct nt
  have HE := Lib.hid henc
  have HG := Lib.hid hgood
  clear henc hgood
  have hf64 : at_ % 64 < 64 := Nat.mod_lt _ (by omega)
  have hfe : (at_ : Int) % 64 = ((at_ % 64 : Nat) : Int) := rfl
  generalize at_ % 64 = f at *
  go_enter Try.func5, Try.ntmps5
  go_wp2_with fail
  refine (HL.out _).mono ?_
  rintro e w0 ⟨rfl, hb⟩
  have HB0 := Lib.hid hb
  clear hb
  have hba := (Below.refl w0.heap.size w0).alloc (Nat.le_refl _) (.cells #[.int .i64 ((st : Int) % 60000), .int .i64 (1 + (ct : Int) % 5000), .int .i64 ((nt : Int) % 65535 - 1)] 23)
  have HB1 := Lib.hid (HB0.out.trans (hba.mono HB0.out.size))
  clear hba HB0
  go_wp2_with fail
  refine (HE.out _).mono ?_
  rintro e w2 ⟨rfl, hb⟩
  have HB2 := Lib.hid (HB1.out.trans (hb.mono HB1.out.size))
  clear hb HB1 HE
  go_wp2
  go_loopw [14, 41] (fun v i wr => ∃ (q m y : Nat), q ≤ 16 ∧ i = .int .i64 (q : Int) ∧ v = .int .u64 (y : Int) ∧ Bit x f q m y ∧ w2 = wr) (fun _ i _ => 16 - (intOf i).toNat)
  case atStart => exact ⟨0, 0, x, Nat.zero_le _, rfl, rfl, Bit.refl f hx, rfl⟩
  case round =>
    obtain ⟨q, m, y, hq, rfl, rfl, hrel, rfl⟩ := hrel
    have HR := Lib.hid hrel
    have hy := hrel.lt
    clear hrel
    by_cases hlt : q < 16
    · have hke : (f : Int) + (q : Int) = ((f + q : Nat) : Int) := rfl
      have hkl : f + q < 80 := by omega
      have HT := Lib.hid (fun h48 => HR.out.turn (k := f + q) rfl h48)
      generalize f + q = kk at *
      by_cases hk8 : kk < 48
      · have hbit : bits .and .u16 ((mask : Int) / 2 ^ q) 1 = ((mask / 2 ^ q % 2 : Nat) : Int) := by
          have h1 : ((mask : Int) / 2 ^ q) = ((mask / 2 ^ q : Nat) : Int) := by simp
          rw [h1]
          have h2 := u16_and_nat (mask / 2 ^ q) 1 (Nat.lt_of_le_of_lt (Nat.div_le_self _ _) h5) (by omega)
          rw [nat_mask1] at h2
          exact h2
        rcases Nat.mod_two_eq_zero_or_one (mask / 2 ^ q) with hb2 | hb2
        · rw [hb2] at hbit
          go_wp2
          exact ⟨⟨q + 1, m, y, by omega, by go_num, rfl, HR.out.skip, trivial⟩, by simp [intOf]; omega⟩
        · rw [hb2] at hbit
          have HT2 := Lib.hid (HT.out hk8)
          have HQ := Lib.hid (show bits .xor .u64 (y : Int) (IntKind.u64.wrap (2 ^ (8 * (kk / 8) + 7 - kk % 8))) = ((y ^^^ 2 ^ (8 * (kk / 8) + (7 - kk % 8)) : Nat) : Int) by
            rw [show 8 * (kk / 8) + 7 - kk % 8 = 8 * (kk / 8) + (7 - kk % 8) by omega, wrap_pow (by omega)]
            have h := u64_xor_nat y (2 ^ (8 * (kk / 8) + (7 - kk % 8))) hy (Nat.pow_lt_pow_right (n := 64) (by omega) (by omega))
            rw [← h]
            congr 1)
          clear HT
          go_wp2
          exact ⟨⟨q + 1, m ^^^ 2 ^ q, _, by omega, by go_num, by rw [HQ.out], HT2.out, trivial⟩, by simp [intOf]; omega⟩
      · go_wp2
        exact ⟨⟨q + 1, m, y, by omega, by go_num, rfl, HR.out.skip, trivial⟩, by simp [intOf]; omega⟩
    · obtain rfl : q = 16 := by omega
      by_cases hf48 : f < 48
      · by_cases hm : m = 0
        · obtain rfl := HR.out.zero hm
          go_wp2
          go_ret
          exact ⟨rfl, HB2.out⟩
        · obtain ⟨hdn, hne⟩ := HR.out.none HG.out (by omega) hm
          have HD := Lib.hid (fun W => tells_none W y hy hdn)
          have hne' : ((y : Int) == (x : Int)) = false := by simp; omega
          clear hdn hne
          go_wp2_with fail
          refine (HD.out _).mono ?_
          rintro e w3 ⟨rfl, hb⟩
          have HB3 := Lib.hid (HB2.out.trans (hb.mono HB2.out.size))
          clear hb HB2 HD
          go_wp2
          go_ret
          exact ⟨rfl, HB3.out.alloc HB3.out.size _⟩
      · have hxor : bits .xor .u64 (x : Int) ((mask : Int) * 281474976710656) = ((x ^^^ mask * 2 ^ 48 : Nat) : Int) := by
          have h := u64_xor_nat x (mask * 2 ^ 48) hx (by omega)
          rw [← h]
          rfl
        have hz : x ^^^ mask * 2 ^ 48 < 18446744073709551616 := Nat.xor_lt_two_pow (n := 64) hx (by omega)
        have HS := Lib.hid (fun h0 => sum_turn (mask := mask) HG.out h0)
        have HZ := Lib.hid (show mask = 0 → x ^^^ mask * 2 ^ 48 = x by rintro rfl; simp)
        generalize x ^^^ mask * 2 ^ 48 = z at *
        clear HR hy
        by_cases hm : mask = 0
        · obtain rfl := HZ.out hm
          clear hm HS HZ
          go_wp2
          go_ret
          exact ⟨rfl, HB2.out⟩
        · obtain ⟨hdn, hne⟩ := HS.out hm
          have HD := Lib.hid (fun W => tells_none W z hz hdn)
          have hne' : ((z : Int) == (x : Int)) = false := by simp; omega
          clear hdn hne HS HZ hm
          go_wp2_with fail
          refine (HD.out _).mono ?_
          rintro e w3 ⟨rfl, hb⟩
          have HB3 := Lib.hid (HB2.out.trans (hb.mono HB2.out.size))
          clear hb HB2 HD
          go_wp2
          go_ret
          exact ⟨rfl, HB3.out.alloc HB3.out.size _⟩
end Slo
end Go.Proofs.Ytjhmmllifecfkaa
