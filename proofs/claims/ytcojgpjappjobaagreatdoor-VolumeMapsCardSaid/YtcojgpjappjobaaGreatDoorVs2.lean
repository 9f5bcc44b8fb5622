/- Texts laid together: BmNext, BmRange, BmWords, BmRef, BmRefW, BmSame, BmOf, BmRefOf, GeoMath, GeoStep, GeoAt, GeoSome. -/
import Derived.Test.YtcojgpjappjobaaGreatDoorVs1
import Derived.Laws.OwnMore
import Derived.OneCell
import Derived.ArgAppend
import Derived.Lib.SliceRun
import Derived.Deep.RegionHeld3
import Derived.BigCall
import Derived.Laws.BitsAllLaws
import Derived.Test.YtcojgpjappjobaaGreatDoorRows
import Derived.WalkKit
import Derived.ProofKit
import Derived.IntWalk
import Derived.MapKept
import Derived.Lib.Hide
/- The next block, and blocks one behind the other. -/
namespace Go.Proofs.YtcojgpjappjobaaGreatDoor
open Go.RowKit Go.MapKept
namespace Bm
open Pack (Wds Nts)

theorem not_u64 (y : Nat) (hy : y < 18446744073709551616) : bits BinOp.xor IntKind.u64 IntKind.u64.max (y : Int) = ((18446744073709551615 - y : Nat) : Int) := by
  have := u64_xor_nat 18446744073709551615 y (by decide) hy
  rw [show IntKind.u64.max = ((18446744073709551615 : Nat) : Int) from rfl, this]
  congr 1
  apply Nat.eq_of_testBit_eq
  intro i
  rw [Nat.testBit_xor, not_bit _ _ hy, top_bit]
  by_cases hi : i < 64
  · simp [hi]
  · have : y.testBit i = false := Nat.testBit_lt_two_pow (Nat.lt_of_lt_of_le hy (Nat.pow_le_pow_right (n := 2) (i := 64) (by omega) (by omega)))
    simp [hi, this]

section
variable {w : World} {p q K C n : Nat} {f : Nat → Bool}
set_option maxRecDepth 100000 in
set_option maxHeartbeats 2000000 in
theorem next_true (h : Mp w p q K C n f) (hT : Tab w) (x : Int) (s : Nat) (hs : (s : Int) = max x 0) (hx : x ≤ 9223372036854775807) :
    Calls Tryz.prog 109 #[.pointer (some ⟨p, 0, none⟩), .int .i64 x, .bool true] w fun e w' => e = .returned (.int .i64 (next f true n s)) ∧ w = w' := by
  have hc1 := h.c1
  have hkk := h.kk
  have hmx := h.max
  have hs2 : s ≤ 9223372036854775807 := by omega
  have HB := Lib.hid (fun w => bitOf_any s hs2 w)
  have hp0 : 0 < 2 ^ (s % 64) := Nat.pow_pos (by omega)
  have hpl := pow_lt64 (Nat.mod_lt s (show 64 > 0 by omega))
  have H := Lib.hid h
  have HT := Lib.hid hT
  clear h hT
  obtain ⟨a0, ha0⟩ : ∃ a0 : Nat, a0 = 2 ^ (s % 64) - 1 := ⟨_, rfl⟩
  have hsub : IntKind.u64.wrap (((2 ^ (s % 64) : Nat) : Int) - 1) = (a0 : Int) := by
    subst ha0
    generalize 2 ^ (s % 64) = y at *
    rw [IntKind.wrap_u64]
    omega
  have HA := Lib.hid (show a0 = 2 ^ (s - 64 * (s / 64)) - 1 by rw [ha0, show s - 64 * (s / 64) = s % 64 by omega])
  generalize 2 ^ (s % 64) = y0 at *
  clear ha0 hp0 hpl
  rcases Int.lt_or_le x 0 with hn | hn
  · have hs0 : s = 0 := by omega
    have HZ := Lib.hid hs0
    have HB2 := Lib.hid (fun w => show Calls Tryz.prog 96 #[.int .i64 0] w _ from hs0 ▸ HB.out w)
    clear hs hs0 HB
    rename Hid (∀ (w : World), Calls _ _ #[.int .i64 0] w _) => HB
    go_enter Tryz.func109, Tryz.ntmps109
    go_wp2_with (go_at_call 96; refine (HB.out _).mono ?_; rintro e w' ⟨rfl, rfl⟩)
    clear hsub
    go_loop [7, 8] (fun a i => ∃ k : Nat, s / 64 ≤ k ∧ i = .int .i64 (k : Int) ∧ a = .int .u64 ((2 ^ (s - 64 * k) - 1 : Nat) : Int) ∧ ∀ b, s ≤ b → b < 64 * k → b < n → f b ≠ true) (fun _ i => K - (intOf i).toNat)
    case atStart => exact ⟨s / 64, Nat.le_refl _, by rw [HZ.out]; rfl, by rw [← HA.out], fun b h1 h2 => by omega⟩
    case round =>
      obtain ⟨k, hk, rfl, rfl, hpre⟩ := hrel
      have HP := Lib.hid hpre
      clear hpre
      by_cases hlt : k < K
      · have hrc := H.out.row.cell hlt
        have hlt64 : s - 64 * k < 64 := by omega
        have hal : 2 ^ (s - 64 * k) - 1 < 18446744073709551616 := by have := pow_lt64 hlt64; omega
        have han := andNot_u64 _ _ (wd_lt (fun b => f b == true) k) hal
        rw [wd_fro f true s k hlt64, wd_used] at han
        have hYl := wd_lt (fro f true s) k
        have HZ0 := Lib.hid (fun hz b h1 h2 h3 => fro_none (f := f) (u := true) (s := s) (k := k) hz b h1 h2 h3)
        have HZ1 := Lib.hid (fun hz => fro_some (n := n) (f := f) (u := true) (s := s) (k := k) HP.out hz)
        generalize wd (fro f true s) k = Y at *
        generalize wd f k = y at *
        have HA2 := Lib.hid (show 2 ^ (s - 64 * (k + 1)) - 1 = 0 by rw [show s - 64 * (k + 1) = 0 by omega])
        generalize 2 ^ (s - 64 * k) - 1 = aa at *
        clear hlt64 hal
        have hi0 : (0 : Int) ≤ (k : Int) := by omega
        have hi1 : (k : Int) < (K : Int) := by omega
        by_cases hY : Y = 0
        · have HN := Lib.hid (HZ0.out hY)
          have hz1 : ((Y : Int) == 0) = true := by simp; omega
          have hz2 : ((Y : Int) != 0) = false := by simp; omega
          clear hY
          clear HZ0 HZ1 hYl
          go_wp2
          go_round
          case rel =>
            refine ⟨k + 1, by omega, by go_num, by rw [HA2.out]; rfl, fun b h1 h2 h3 => ?_⟩
            by_cases hb : b < 64 * k
            · exact HP.out b h1 hb h3
            · exact HN.out b (by omega) h2 h1
          case measure => simp [intOf]; omega
        · obtain ⟨hnx, hc64⟩ := HZ1.out hY
          have hne : ((Y : Int) == 0) = false := by simp; omega
          have hne2 : ((Y : Int) != 0) = true := by simp; omega
          have HTZ := Lib.hid (tz_any Y hYl hY w HT.out)
          have HX := Lib.hid hnx.next
          clear hnx HZ0 HZ1 hYl hY
          generalize Lib.ctz 64 Y = c at *
          obtain ⟨v, hv⟩ : ∃ v : Nat, v = 64 * k + c := ⟨_, rfl⟩
          rw [← hv] at HX
          have hsum : (k : Int) * 64 + (c : Int) = (v : Int) := by omega
          have HBN := Lib.hid (blockOrNone_any H.out v)
          rw [HX.out] at HBN
          have hv2 : v ≤ 100000 := by omega
          clear hv
          go_wp2_with fail
          refine HTZ.out.mono ?_
          rintro e w' ⟨rfl, rfl⟩
          go_wp2_with fail
          refine HBN.out.mono ?_
          rintro e w' ⟨rfl, rfl⟩
          go_wp2
          go_ret
          exact ⟨rfl, rfl⟩
      · have HX := Lib.hid (Nx.next (.inl ⟨rfl, fun b h1 h2 => HP.out b h1 (by omega) h2⟩ : Nx f true n s (-1)))
        go_wp2
        go_ret
        exact ⟨by rw [← HX.out]; rfl, rfl⟩
  · obtain rfl : x = (s : Int) := by omega
    clear hs
    go_enter Tryz.func109, Tryz.ntmps109
    go_wp2_with (go_at_call 96; refine (HB.out _).mono ?_; rintro e w' ⟨rfl, rfl⟩)
    clear hsub
    go_loop [7, 8] (fun a i => ∃ k : Nat, s / 64 ≤ k ∧ i = .int .i64 (k : Int) ∧ a = .int .u64 ((2 ^ (s - 64 * k) - 1 : Nat) : Int) ∧ ∀ b, s ≤ b → b < 64 * k → b < n → f b ≠ true) (fun _ i => K - (intOf i).toNat)
    case atStart => exact ⟨s / 64, Nat.le_refl _, rfl, by rw [← HA.out], fun b h1 h2 => by omega⟩
    case round =>
      obtain ⟨k, hk, rfl, rfl, hpre⟩ := hrel
      have HP := Lib.hid hpre
      clear hpre
      by_cases hlt : k < K
      · have hrc := H.out.row.cell hlt
        have hlt64 : s - 64 * k < 64 := by omega
        have hal : 2 ^ (s - 64 * k) - 1 < 18446744073709551616 := by have := pow_lt64 hlt64; omega
        have han := andNot_u64 _ _ (wd_lt (fun b => f b == true) k) hal
        rw [wd_fro f true s k hlt64, wd_used] at han
        have hYl := wd_lt (fro f true s) k
        have HZ0 := Lib.hid (fun hz b h1 h2 h3 => fro_none (f := f) (u := true) (s := s) (k := k) hz b h1 h2 h3)
        have HZ1 := Lib.hid (fun hz => fro_some (n := n) (f := f) (u := true) (s := s) (k := k) HP.out hz)
        generalize wd (fro f true s) k = Y at *
        generalize wd f k = y at *
        have HA2 := Lib.hid (show 2 ^ (s - 64 * (k + 1)) - 1 = 0 by rw [show s - 64 * (k + 1) = 0 by omega])
        generalize 2 ^ (s - 64 * k) - 1 = aa at *
        clear hlt64 hal
        have hi0 : (0 : Int) ≤ (k : Int) := by omega
        have hi1 : (k : Int) < (K : Int) := by omega
        by_cases hY : Y = 0
        · have HN := Lib.hid (HZ0.out hY)
          have hz1 : ((Y : Int) == 0) = true := by simp; omega
          have hz2 : ((Y : Int) != 0) = false := by simp; omega
          clear hY
          clear HZ0 HZ1 hYl
          go_wp2
          go_round
          case rel =>
            refine ⟨k + 1, by omega, by go_num, by rw [HA2.out]; rfl, fun b h1 h2 h3 => ?_⟩
            by_cases hb : b < 64 * k
            · exact HP.out b h1 hb h3
            · exact HN.out b (by omega) h2 h1
          case measure => simp [intOf]; omega
        · obtain ⟨hnx, hc64⟩ := HZ1.out hY
          have hne : ((Y : Int) == 0) = false := by simp; omega
          have hne2 : ((Y : Int) != 0) = true := by simp; omega
          have HTZ := Lib.hid (tz_any Y hYl hY w HT.out)
          have HX := Lib.hid hnx.next
          clear hnx HZ0 HZ1 hYl hY
          generalize Lib.ctz 64 Y = c at *
          obtain ⟨v, hv⟩ : ∃ v : Nat, v = 64 * k + c := ⟨_, rfl⟩
          rw [← hv] at HX
          have hsum : (k : Int) * 64 + (c : Int) = (v : Int) := by omega
          have HBN := Lib.hid (blockOrNone_any H.out v)
          rw [HX.out] at HBN
          have hv2 : v ≤ 100000 := by omega
          clear hv
          go_wp2_with fail
          refine HTZ.out.mono ?_
          rintro e w' ⟨rfl, rfl⟩
          go_wp2_with fail
          refine HBN.out.mono ?_
          rintro e w' ⟨rfl, rfl⟩
          go_wp2
          go_ret
          exact ⟨rfl, rfl⟩
      · have HX := Lib.hid (Nx.next (.inl ⟨rfl, fun b h1 h2 => HP.out b h1 (by omega) h2⟩ : Nx f true n s (-1)))
        go_wp2
        go_ret
        exact ⟨by rw [← HX.out]; rfl, rfl⟩
set_option maxRecDepth 100000 in
set_option maxHeartbeats 2000000 in
theorem next_false (h : Mp w p q K C n f) (hT : Tab w) (x : Int) (s : Nat) (hs : (s : Int) = max x 0) (hx : x ≤ 9223372036854775807) :
    Calls Tryz.prog 109 #[.pointer (some ⟨p, 0, none⟩), .int .i64 x, .bool false] w fun e w' => e = .returned (.int .i64 (next f false n s)) ∧ w = w' := by
  have hc1 := h.c1
  have hkk := h.kk
  have hmx := h.max
  have hs2 : s ≤ 9223372036854775807 := by omega
  have HB := Lib.hid (fun w => bitOf_any s hs2 w)
  have hp0 : 0 < 2 ^ (s % 64) := Nat.pow_pos (by omega)
  have hpl := pow_lt64 (Nat.mod_lt s (show 64 > 0 by omega))
  have H := Lib.hid h
  have HT := Lib.hid hT
  clear h hT
  obtain ⟨a0, ha0⟩ : ∃ a0 : Nat, a0 = 2 ^ (s % 64) - 1 := ⟨_, rfl⟩
  have hsub : IntKind.u64.wrap (((2 ^ (s % 64) : Nat) : Int) - 1) = (a0 : Int) := by
    subst ha0
    generalize 2 ^ (s % 64) = y at *
    rw [IntKind.wrap_u64]
    omega
  have HA := Lib.hid (show a0 = 2 ^ (s - 64 * (s / 64)) - 1 by rw [ha0, show s - 64 * (s / 64) = s % 64 by omega])
  generalize 2 ^ (s % 64) = y0 at *
  clear ha0 hp0 hpl
  rcases Int.lt_or_le x 0 with hn | hn
  · have hs0 : s = 0 := by omega
    have HZ := Lib.hid hs0
    have HB2 := Lib.hid (fun w => show Calls Tryz.prog 96 #[.int .i64 0] w _ from hs0 ▸ HB.out w)
    clear hs hs0 HB
    rename Hid (∀ (w : World), Calls _ _ #[.int .i64 0] w _) => HB
    go_enter Tryz.func109, Tryz.ntmps109
    go_wp2_with (go_at_call 96; refine (HB.out _).mono ?_; rintro e w' ⟨rfl, rfl⟩)
    clear hsub
    go_loop [7, 8] (fun a i => ∃ k : Nat, s / 64 ≤ k ∧ i = .int .i64 (k : Int) ∧ a = .int .u64 ((2 ^ (s - 64 * k) - 1 : Nat) : Int) ∧ ∀ b, s ≤ b → b < 64 * k → b < n → f b ≠ false) (fun _ i => K - (intOf i).toNat)
    case atStart => exact ⟨s / 64, Nat.le_refl _, by rw [HZ.out]; rfl, by rw [← HA.out], fun b h1 h2 => by omega⟩
    case round =>
      obtain ⟨k, hk, rfl, rfl, hpre⟩ := hrel
      have HP := Lib.hid hpre
      clear hpre
      by_cases hlt : k < K
      · have hrc := H.out.row.cell hlt
        have hlt64 : s - 64 * k < 64 := by omega
        have hal : 2 ^ (s - 64 * k) - 1 < 18446744073709551616 := by have := pow_lt64 hlt64; omega
        have han := andNot_u64 _ _ (wd_lt (fun b => f b == false) k) hal
        rw [wd_fro f false s k hlt64] at han
        have hnot := not_u64 (wd f k) (wd_lt f k)
        rw [wd_free] at hnot
        have hnot2 : bits BinOp.xor IntKind.u64 (if IntKind.u64.signed = true then -1 else IntKind.u64.max) (wd f k : Int) = (wd (fun b => f b == false) k : Int) := hnot
        generalize wd (fun b => f b == false) k = nx at *
        have hYl := wd_lt (fro f false s) k
        have HZ0 := Lib.hid (fun hz b h1 h2 h3 => fro_none (f := f) (u := false) (s := s) (k := k) hz b h1 h2 h3)
        have HZ1 := Lib.hid (fun hz => fro_some (n := n) (f := f) (u := false) (s := s) (k := k) HP.out hz)
        generalize wd (fro f false s) k = Y at *
        generalize wd f k = y at *
        have HA2 := Lib.hid (show 2 ^ (s - 64 * (k + 1)) - 1 = 0 by rw [show s - 64 * (k + 1) = 0 by omega])
        generalize 2 ^ (s - 64 * k) - 1 = aa at *
        clear hlt64 hal
        have hi0 : (0 : Int) ≤ (k : Int) := by omega
        have hi1 : (k : Int) < (K : Int) := by omega
        by_cases hY : Y = 0
        · have HN := Lib.hid (HZ0.out hY)
          have hz1 : ((Y : Int) == 0) = true := by simp; omega
          have hz2 : ((Y : Int) != 0) = false := by simp; omega
          clear hY
          clear HZ0 HZ1 hYl
          go_wp2
          go_round
          case rel =>
            refine ⟨k + 1, by omega, by go_num, by rw [HA2.out]; rfl, fun b h1 h2 h3 => ?_⟩
            by_cases hb : b < 64 * k
            · exact HP.out b h1 hb h3
            · exact HN.out b (by omega) h2 h1
          case measure => simp [intOf]; omega
        · obtain ⟨hnx, hc64⟩ := HZ1.out hY
          have hne : ((Y : Int) == 0) = false := by simp; omega
          have hne2 : ((Y : Int) != 0) = true := by simp; omega
          have HTZ := Lib.hid (tz_any Y hYl hY w HT.out)
          have HX := Lib.hid hnx.next
          clear hnx HZ0 HZ1 hYl hY
          generalize Lib.ctz 64 Y = c at *
          obtain ⟨v, hv⟩ : ∃ v : Nat, v = 64 * k + c := ⟨_, rfl⟩
          rw [← hv] at HX
          have hsum : (k : Int) * 64 + (c : Int) = (v : Int) := by omega
          have HBN := Lib.hid (blockOrNone_any H.out v)
          rw [HX.out] at HBN
          have hv2 : v ≤ 100000 := by omega
          clear hv
          go_wp2_with fail
          refine HTZ.out.mono ?_
          rintro e w' ⟨rfl, rfl⟩
          go_wp2_with fail
          refine HBN.out.mono ?_
          rintro e w' ⟨rfl, rfl⟩
          go_wp2
          go_ret
          exact ⟨rfl, rfl⟩
      · have HX := Lib.hid (Nx.next (.inl ⟨rfl, fun b h1 h2 => HP.out b h1 (by omega) h2⟩ : Nx f false n s (-1)))
        go_wp2
        go_ret
        exact ⟨by rw [← HX.out]; rfl, rfl⟩
  · obtain rfl : x = (s : Int) := by omega
    clear hs
    go_enter Tryz.func109, Tryz.ntmps109
    go_wp2_with (go_at_call 96; refine (HB.out _).mono ?_; rintro e w' ⟨rfl, rfl⟩)
    clear hsub
    go_loop [7, 8] (fun a i => ∃ k : Nat, s / 64 ≤ k ∧ i = .int .i64 (k : Int) ∧ a = .int .u64 ((2 ^ (s - 64 * k) - 1 : Nat) : Int) ∧ ∀ b, s ≤ b → b < 64 * k → b < n → f b ≠ false) (fun _ i => K - (intOf i).toNat)
    case atStart => exact ⟨s / 64, Nat.le_refl _, rfl, by rw [← HA.out], fun b h1 h2 => by omega⟩
    case round =>
      obtain ⟨k, hk, rfl, rfl, hpre⟩ := hrel
      have HP := Lib.hid hpre
      clear hpre
      by_cases hlt : k < K
      · have hrc := H.out.row.cell hlt
        have hlt64 : s - 64 * k < 64 := by omega
        have hal : 2 ^ (s - 64 * k) - 1 < 18446744073709551616 := by have := pow_lt64 hlt64; omega
        have han := andNot_u64 _ _ (wd_lt (fun b => f b == false) k) hal
        rw [wd_fro f false s k hlt64] at han
        have hnot := not_u64 (wd f k) (wd_lt f k)
        rw [wd_free] at hnot
        have hnot2 : bits BinOp.xor IntKind.u64 (if IntKind.u64.signed = true then -1 else IntKind.u64.max) (wd f k : Int) = (wd (fun b => f b == false) k : Int) := hnot
        generalize wd (fun b => f b == false) k = nx at *
        have hYl := wd_lt (fro f false s) k
        have HZ0 := Lib.hid (fun hz b h1 h2 h3 => fro_none (f := f) (u := false) (s := s) (k := k) hz b h1 h2 h3)
        have HZ1 := Lib.hid (fun hz => fro_some (n := n) (f := f) (u := false) (s := s) (k := k) HP.out hz)
        generalize wd (fro f false s) k = Y at *
        generalize wd f k = y at *
        have HA2 := Lib.hid (show 2 ^ (s - 64 * (k + 1)) - 1 = 0 by rw [show s - 64 * (k + 1) = 0 by omega])
        generalize 2 ^ (s - 64 * k) - 1 = aa at *
        clear hlt64 hal
        have hi0 : (0 : Int) ≤ (k : Int) := by omega
        have hi1 : (k : Int) < (K : Int) := by omega
        by_cases hY : Y = 0
        · have HN := Lib.hid (HZ0.out hY)
          have hz1 : ((Y : Int) == 0) = true := by simp; omega
          have hz2 : ((Y : Int) != 0) = false := by simp; omega
          clear hY
          clear HZ0 HZ1 hYl
          go_wp2
          go_round
          case rel =>
            refine ⟨k + 1, by omega, by go_num, by rw [HA2.out]; rfl, fun b h1 h2 h3 => ?_⟩
            by_cases hb : b < 64 * k
            · exact HP.out b h1 hb h3
            · exact HN.out b (by omega) h2 h1
          case measure => simp [intOf]; omega
        · obtain ⟨hnx, hc64⟩ := HZ1.out hY
          have hne : ((Y : Int) == 0) = false := by simp; omega
          have hne2 : ((Y : Int) != 0) = true := by simp; omega
          have HTZ := Lib.hid (tz_any Y hYl hY w HT.out)
          have HX := Lib.hid hnx.next
          clear hnx HZ0 HZ1 hYl hY
          generalize Lib.ctz 64 Y = c at *
          obtain ⟨v, hv⟩ : ∃ v : Nat, v = 64 * k + c := ⟨_, rfl⟩
          rw [← hv] at HX
          have hsum : (k : Int) * 64 + (c : Int) = (v : Int) := by omega
          have HBN := Lib.hid (blockOrNone_any H.out v)
          rw [HX.out] at HBN
          have hv2 : v ≤ 100000 := by omega
          clear hv
          go_wp2_with fail
          refine HTZ.out.mono ?_
          rintro e w' ⟨rfl, rfl⟩
          go_wp2_with fail
          refine HBN.out.mono ?_
          rintro e w' ⟨rfl, rfl⟩
          go_wp2
          go_ret
          exact ⟨rfl, rfl⟩
      · have HX := Lib.hid (Nx.next (.inl ⟨rfl, fun b h1 h2 => HP.out b h1 (by omega) h2⟩ : Nx f false n s (-1)))
        go_wp2
        go_ret
        exact ⟨by rw [← HX.out]; rfl, rfl⟩
theorem next_any (h : Mp w p q K C n f) (hT : Tab w) (x : Int) (u : Bool) (hx : x ≤ 9223372036854775807) :
    Calls Tryz.prog 109 #[.pointer (some ⟨p, 0, none⟩), .int .i64 x, .bool u] w fun e w' => e = .returned (.int .i64 (next f u n x.toNat)) ∧ w = w' := by
  cases u
  · exact next_false h hT x x.toNat (by omega) hx
  · exact next_true h hT x x.toNat (by omega) hx
end
end Bm
end Go.Proofs.YtcojgpjappjobaaGreatDoor
/- One block put or dropped; blocks one behind the other. -/
namespace Go.Proofs.YtcojgpjappjobaaGreatDoor
open Go.RowKit Go.MapKept
namespace Bm
open Pack (Wds Nts)

section
variable {w : World} {p q K C n : Nat} {f : Nat → Bool}
theorem nts_new (w : World) (x : Int) (h1 : -9223372036854775808 ≤ x) (h2 : x ≤ 9223372036854775807) (hq : q < w.heap.size) : ∀ w', Chg q (w.alloc (.cells #[.int .i64 x] 3)) w' → Nts w' (some ⟨w.heap.size, 0, none⟩) [x] := fun w' hc =>
  ⟨fun y hy => by
    obtain rfl : y = x := by simpa using hy
    exact ⟨h1, h2⟩, by simp, fun j hj => by
    obtain rfl : j = 0 := by simpa using hj
    refine ⟨w.heap.size, 0, rfl, Nat.lt_of_lt_of_le (by simp) hc.size, ?_⟩
    rw [hc.cell (p := ⟨w.heap.size, 0 + 0, none⟩) (by simp) (by simp; omega)]
    exact Pack.alloc_cell _ _ _ _⟩
theorem tn_one (n : Nat) (is : Bool) (f : Nat → Bool) (x : Int) : tn n is f [x] = (trn n is f x, if trd n is f x then 1 else 0) := by
  simp [tn, tnp]
theorem put1_any (h : Mp w p q K C n f) (x : Int) (h1 : -9223372036854775808 ≤ x) (h2 : x ≤ 9223372036854775807) (c : Nat) :
    Calls Tryz.prog 38 #[.pointer (some ⟨p, 0, none⟩), .slice (some ⟨w.heap.size, 0, none⟩) 1 c] (w.alloc (.cells #[.int .i64 x] 3)) fun e w' => e = .returned (.int .i64 ((if trd n true f x then 1 else 0 : Nat) : Int)) ∧ Mp w' p q K C n (trn n true f x) ∧ Chg q w w' := by
  have hm := h.keep ((Below.refl _ _).alloc (Nat.le_refl _) (.cells #[.int .i64 x] 3))
  have := put_any hm (some ⟨w.heap.size, 0, none⟩) c [x] (nts_new w x h1 h2 h.row.lt)
  rw [tn_one] at this
  exact this.mono fun e w' ⟨he, hM, hC⟩ => ⟨he, hM, ((Chg.refl q w).alloc _).trans hC⟩
/-- it has them from s on, ahead of e, too -/
def fill (f : Nat → Bool) (s e b : Nat) : Bool := f b || decide (s ≤ b ∧ b < e)
theorem trn_in {b : Nat} (hb : b < n) (is : Bool) : trn n is f (b : Int) = upd f b is := by
  funext x
  unfold trn
  split
  · rw [Int.toNat_natCast]
  · rename_i h
    unfold trd at h
    rw [Int.toNat_natCast, decide_eq_true (by omega : (0 : Int) ≤ (b : Int) ∧ (b : Int) < (n : Int))] at h
    have h' : f b = is := by simpa using h
    unfold upd
    split
    · rename_i e; rw [e, h']
    · rfl
theorem fill_step (s b : Nat) (hs : s ≤ b) : upd (fill f s b) b true = fill f s (b + 1) := by
  funext x
  unfold upd fill
  by_cases hx : x = b
  · subst hx
    rw [if_pos rfl, decide_eq_true (by omega)]
    simp
  · rw [if_neg hx]
    have : decide (s ≤ x ∧ x < b) = decide (s ≤ x ∧ x < b + 1) := by rw [decide_eq_decide]; omega
    rw [this]
theorem fill_none (s : Nat) : fill f s s = f := by
  funext x
  unfold fill
  rw [decide_eq_false (by omega)]
  simp
/-- whether they may be had -/
def rgb (n : Nat) (f : Nat → Bool) (s c : Int) : Bool := decide (0 ≤ s ∧ s < (n : Int) ∧ 1 ≤ c ∧ c ≤ (n : Int) - s) && decide (next f true n s.toNat = -1 ∨ s + c ≤ next f true n s.toNat)
theorem rgb_iff {s c : Int} : rgb n f s c = true ↔ (0 ≤ s ∧ 1 ≤ c ∧ s + c ≤ (n : Int)) ∧ ∀ b : Nat, s ≤ (b : Int) → (b : Int) < s + c → f b = false := by
  unfold rgb
  rw [Bool.and_eq_true, decide_eq_true_eq, decide_eq_true_eq]
  constructor
  · rintro ⟨h, h2⟩
    refine ⟨by omega, fun b h3 h4 => ?_⟩
    rcases next_is f true n s.toNat with ⟨e, g⟩ | ⟨d, e, _, _, _, g⟩
    · have := g b (by omega) (by omega)
      simpa using this
    · have := g b (by omega) (by omega)
      simpa using this
  · rintro ⟨h, g⟩
    refine ⟨by omega, ?_⟩
    rcases next_is f true n s.toNat with ⟨e, _⟩ | ⟨d, e, h1, h2, h3, _⟩
    · exact .inl e
    · refine .inr ?_
      rcases Int.lt_or_le (next f true n s.toNat) (s + c) with hl | hl
      · have := g d (by omega) (by omega)
        rw [h3] at this
        cases this
      · exact hl
/-- what is there behind it -/
def rgf (n : Nat) (f : Nat → Bool) (s c : Int) : Nat → Bool := if rgb n f s c then fill f s.toNat (s + c).toNat else f

end
end Bm
end Go.Proofs.YtcojgpjappjobaaGreatDoor
/- A map's words, a copy, whether two are the same. -/
namespace Go.Proofs.YtcojgpjappjobaaGreatDoor
open Go.RowKit Go.MapKept
namespace Bm
open Pack (Wds Nts u64_info)

theorem wds_news {W : World} {ad : Addr} {l : List Nat} (h : Wds W (some ad) l) : ∀ j u, (Pack.u64s l)[j]? = some u → W.cell? (ad.add j) = some u := by
  intro j u hu
  have hj : j < l.length := by
    have := (List.getElem?_eq_some_iff.1 hu).1
    simpa [Pack.u64s] using this
  obtain ⟨b, o, e, _, hc⟩ := h.at' j hj
  injection e with e
  subst e
  rw [Go.WideShapes.add_plain, hc, ← hu]
  simp [Pack.u64s, List.getElem?_eq_getElem hj]
theorem u64s_one (l : List Nat) : ∀ u ∈ Pack.u64s l, u.oneCell' = true := by
  intro u hu
  obtain ⟨x, _, rfl⟩ := List.mem_map.1 hu
  rfl
/-- a copy of words: a row of the call's own -/
theorem copy_row {W : World} {A : Option Addr} {l : List Nat} (c : Nat) (h : Wds W A l) (hA : A = none → c = 0) (hl : l.length ≤ 1000000) :
    ∃ (g gc : Nat) (w' : World), (Builtin.append_ #[22, 22] 22 #[.slice (some ⟨W.heap.size, 0, none⟩) 0 0, .slice A l.length c]).run Tryz.prog (W.alloc (.cells #[] 85)) = .ok (.slice (some ⟨g, 0, none⟩) l.length gc) w' ∧
      l.length ≤ gc ∧ W.heap.size ≤ g ∧ Row w' g 85 l.length (fun k => .int .u64 ((l.getD k 0 : Nat) : Int)) ∧ Below W.heap.size W w' := by
  obtain ⟨i0, hi0, hz0, hz1, hz2⟩ := info_parts u64_info
  have hown : (W.alloc (.cells #[] 85)).ownsRow W.heap.size 85 1 (.slice (some ⟨W.heap.size, 0, none⟩) 0 0) 0 [] := World.ownsRow_made W #[] 0 (Nat.le_refl _) (by unfold maxLen; omega) rfl
  have hb := (Below.refl W.heap.size W).alloc (Nat.le_refl _) (.cells #[] 85)
  cases A with
  | none =>
    have hl0 : l = [] := by
      cases l with
      | nil => rfl
      | cons b l =>
        obtain ⟨_, _, e, _⟩ := h.at' 0 (by simp)
        cases e
    subst hl0
    rw [hA rfl]
    exact ⟨_, _, _, run_append_owned_none (P := Tryz.prog) _ W.heap.size 22 22 85 i0 1 Tryz.underlying22 hi0 _ 0 [] hown, by simp, Nat.le_refl _, row_of_is (World.rowIs_alloc W #[] 85 _ (fun i hi => by simp at hi)), hb⟩
  | some ad =>
    obtain ⟨v', w', hr, h2, h3, h4, _⟩ := run_append_own_at (P := Tryz.prog) (W.alloc (.cells #[] 85)) W.heap.size 22 22 85 i0 (.int .u64 0) 1 8 Tryz.underlying22 hi0 hz0 hz1 hz2 rfl (by decide) _ 0 [] hown ad l.length c (Pack.u64s l) (by simp [Pack.u64s]) (wds_news (h.alloc _)) (u64s_one l) (by unfold maxLen; omega) (by omega) (by simp)
    rw [Nat.zero_add, List.nil_append] at h2
    have hne : v' ≠ .slice none 0 0 := fun e => by
      have := (h4.1 e).1
      cases this
    rcases h2.2 with ⟨e, _⟩ | ⟨g, cap, cur, e, hg, hh, hc, _, hsz, ht⟩
    · exact absurd e hne
    · subst e
      refine ⟨g, cap, w', hr, hc, hg, row_of_own h2 (fun i hi => ?_) rfl, hb.grown h3 (by simp) (fun k hk => Pack.row_base_lt hown hk)⟩
      simp [Pack.u64s, List.getD, List.getElem?_eq_getElem hi]

/-- an append whose run is known -/
theorem wpList_append_run {P : Program} {w w' : World} {ops : Array Oper} {rest : List Oper} {o : Oper} {a : Act} {Q : Exit → Act → World → Prop} (hgd : o.guard = none) (s x : Operand) (t : TypeId)
    (ho : o.op = .call { callee := .builtin .append, args := #[s, x], argTypes := #[t, t] }) (v u v' : Value) (hs : a.eval s = v) (hx : a.eval x = u) (hr : (Builtin.append_ #[t, t] o.type #[v, u]).run P w = .ok v' w')
    (h : wpList P ops Q rest (a.put o.dst v') w') : wpList P ops Q (o :: rest) a w := by
  refine wpList_plain hgd fun K hK => ?_
  unfold Oper.wp execOp
  simp only [ho, resolve, invoke, builtin, Sem.run_bind, Sem.run_pure, Result.andThen_ok, List.map_toArray, List.map_cons, List.map_nil, hs, hx, hr]
  exact hK _ _ h

/-- words of the call's own -/
def Wrd (w : World) (K : Nat) (x : Nat → Nat) (e : Ending) (w' : World) : Prop :=
  ∃ g gc : Nat, e = .returned (.slice (some ⟨g, 0, none⟩) K gc) ∧ K ≤ gc ∧ w.heap.size ≤ g ∧ Row w' g 85 K (fun k => .int .u64 (x k : Int)) ∧ Below w.heap.size w w'

section
variable {w : World} {p q K C n : Nat} {f : Nat → Bool}
set_option maxRecDepth 100000 in
set_option maxHeartbeats 1000000 in
theorem clone_any (ad : Addr) (c : Nat) (l : List Nat) (h : Wds w (some ad) l) (hl : l.length ≤ 1000000) :
    Calls Tryz.prog 58 #[.slice (some ad) l.length c] w (Wrd w l.length (fun k => l.getD k 0)) := by
  obtain ⟨g, gc, w', hr, h1, h2, h3, h4⟩ := copy_row c h (fun e => by cases e) hl
  have HR := Lib.hid hr
  have HX := Lib.hid (show Wrd w l.length (fun k => l.getD k 0) (.returned (.slice (some ⟨g, 0, none⟩) l.length gc)) w' from ⟨g, gc, rfl, h1, h2, h3, h4⟩)
  clear hr h1 h2 h3 h4 h
  have q40 : ∀ (w : World) (a : Option Addr) (n c n' c' : Nat), (binOp .eql 22 (.slice a n c) (.slice none n' c')).run Tryz.prog w = .ok (.bool a.isNone) w := fun w a n c n' c' => Lib.run_eql_slice_nil w _ _ a n c n' c' Tryz.underlying22
  go_enter Tryz.func58, Tryz.ntmps58
  go_wp2_with (at_builtin; refine wpList_append_run rfl (.tmp 5) (.tmp 6) 22 rfl _ _ _ rfl rfl HR.out ?_)
  go_ret
  exact HX.out

set_option maxRecDepth 100000 in
theorem words_any (h : Mp w p q K C n f) : Calls Tryz.prog 84 #[.pointer (some ⟨p, 0, none⟩)] w (Wrd w K (wd f)) := by
  have hc1 := h.c1
  have hk := h.kk
  have hmx := h.max
  have hcl := clone_any ⟨q, 0, none⟩ C (wds f K) (h.row.wds (by omega)) (by rw [wds_len]; omega)
  rw [wds_len] at hcl
  have HCL := Lib.hid (hcl.mono fun e w' ⟨g, gc, h1, h2, h3, h4, h5⟩ => (⟨g, gc, h1, h2, h3, h4.congr (fun i hi => by
    have : i < (wds f K).length := by rw [wds_len]; exact hi
    show Value.int .u64 (((wds f K).getD i 0 : Nat) : Int) = Value.int .u64 (wd f i : Int)
    rw [List.getD_eq_getElem?_getD, List.getElem?_eq_getElem this, Option.getD_some, wds_get]), h5⟩ : Wrd w K (wd f) e w'))
  clear hcl h hk hmx
  go_enter Tryz.func84, Tryz.ntmps84
  go_wp2_with fail
  refine HCL.out.mono ?_
  rintro e w' ⟨g, gc, rfl, h2, h3, h4, h5⟩
  have HX := Lib.hid (show Wrd w K (wd f) (.returned (.slice (some ⟨g, 0, none⟩) K gc)) w' from ⟨g, gc, rfl, h2, h3, h4, h5⟩)
  clear h2 h3 h4 h5
  go_wp2
  go_ret
  exact HX.out

/-- a map that the call made -/
def Cpy (w : World) (K n : Nat) (f : Nat → Bool) (e : Ending) (w' : World) : Prop :=
  ∃ p q C : Nat, e = .returned (.pointer (some ⟨p, 0, none⟩)) ∧ w.heap.size ≤ p ∧ w.heap.size ≤ q ∧ Mp w' p q K C n f ∧ Below w.heap.size w w'
theorem below_drew {w w1 : World} (h : Below w.drew.heap.size w.drew w1) : Below w.heap.size w w1 := ⟨h.os, h.tape, h.output, h.size, h.block⟩
theorem mp_box {w1 : World} {g gc : Nat} (hrow : Row w1 g 85 K (fun k => .int .u64 (wd f k : Int))) (hfar : ∀ b, n ≤ b → f b = false) (hm : n ≤ 65534) (hK : K = (n + 63) / 64) (hgc : K ≤ gc) :
    Mp (w1.alloc (.cells #[.int .i64 (n : Int), .slice (some ⟨g, 0, none⟩) K gc] 160)) w1.heap.size g K gc n f :=
  ⟨by simp, Pack.alloc_cell _ _ _ _, Pack.alloc_cell _ _ _ _, hrow.of_block (Below.heap_alloc _ _ _ hrow.lt), Nat.ne_of_gt hrow.lt, hfar, hm, hK, hgc⟩
set_option maxHeartbeats 1600000 in
set_option maxRecDepth 100000 in
theorem equal_any (A B : Option Addr) (c d : Nat) (l m : List Nat) (h : Wds w A l) (g : Wds w B m) :
    Calls Tryz.prog 98 #[.slice A l.length c, .slice B m.length d] w fun e w' => e = .returned (.bool (decide (l = m))) ∧ ∃ n, w' = w.drewN n := by
  have hn := h.len
  have hm := g.len
  have H := Lib.hid h
  have G := Lib.hid g
  clear h g
  by_cases hlen : l.length = m.length
  · go_enter Tryz.func98, Tryz.ntmps98
    go_wp2
    go_loopw [13] (fun i wr => ∃ (k n : Nat), k ≤ l.length ∧ i = .int .i64 (k : Int) ∧ l.take k = m.take k ∧ wr = w.drewN n) (fun i _ => l.length - (intOf i).toNat)
    case atStart => exact ⟨0, 0, Nat.zero_le _, rfl, rfl, rfl⟩
    case round =>
      obtain ⟨k, n, hk, rfl, hs, rfl⟩ := hrel
      have HS := Lib.hid hs
      clear hs
      by_cases hlt : k < l.length
      · have hlt2 : k < m.length := by omega
        obtain ⟨b, o, rfl, hb, hcell⟩ := H.out.at' k hlt
        obtain ⟨b2, o2, rfl, hb2, hcell2⟩ := G.out.at' k hlt2
        have hi0 : (0 : Int) ≤ (k : Int) := by omega
        have hi1 : (k : Int) < (l.length : Int) := by omega
        have hi2 : (k : Int) < (m.length : Int) := by omega
        have HE := Lib.hid (show l.take (k + 1) = m.take (k + 1) ↔ l[k] = m[k] by
          rw [List.take_succ_eq_append_getElem hlt, List.take_succ_eq_append_getElem (l := m) hlt2, HS.out, List.append_right_inj]
          simp)
        generalize l[k] = x at *
        generalize m[k] = y at *
        by_cases hxy : x = y
        · subst hxy
          have HE1 := Lib.hid (HE.out.2 rfl)
          clear HE
          go_wp2
          go_quiet (fail)
          go_wp2
          refine ⟨⟨k + 1, n + nq, by omega, by go_num, HE1.out, rfl⟩, by simp [intOf]; omega⟩
        · have hne : ¬ (x : Int) = (y : Int) := by omega
          go_wp2
          go_quiet (fail)
          go_wp2
          go_ret
          refine ⟨?_, n + nq, World.drewN_drewN _ _ _⟩
          have : ¬ l = m := fun h => hxy (HE.out.1 (by rw [h]))
          rw [decide_eq_false this]
          rfl
      · obtain rfl : k = l.length := by omega
        have he : l = m := by
          have := HS.out
          rwa [List.take_length, hlen, List.take_length] at this
        go_wp2
        go_ret
        refine ⟨?_, n, rfl⟩
        rw [decide_eq_true he]
        rfl
  · have hne : ¬ (l.length : Int) = (m.length : Int) := by omega
    have hlm : ¬ l = m := fun h => hlen (by rw [h])
    go_enter Tryz.func98, Tryz.ntmps98
    go_wp2
    go_ret
    refine ⟨?_, 0, rfl⟩
    rw [decide_eq_false hlm]
    rfl

/-! Same. -/
theorem same_nils (w : World) : Calls Tryz.prog 43 #[.pointer none, .pointer none] w fun e w' => e = .returned (.bool true) ∧ w = w' := by
  go_enter Tryz.func43, Tryz.ntmps43
  go_wp2
  go_ret
  exact ⟨rfl, rfl⟩
theorem same_nil_left (w : World) (p : Nat) : Calls Tryz.prog 43 #[.pointer none, .pointer (some ⟨p, 0, none⟩)] w fun e w' => e = .returned (.bool false) ∧ w = w' := by
  go_enter Tryz.func43, Tryz.ntmps43
  go_wp2
  go_ret
  exact ⟨rfl, rfl⟩
theorem same_nil_right (w : World) (p : Nat) : Calls Tryz.prog 43 #[.pointer (some ⟨p, 0, none⟩), .pointer none] w fun e w' => e = .returned (.bool false) ∧ w = w' := by
  go_enter Tryz.func43, Tryz.ntmps43
  go_wp2
  go_ret
  exact ⟨rfl, rfl⟩
set_option maxRecDepth 100000 in
set_option maxHeartbeats 1000000 in
theorem same_len {p' q' K' C' n' : Nat} {g : Nat → Bool} (h : Mp w p q K C n f) (h' : Mp w p' q' K' C' n' g) (hn : n ≠ n') :
    Calls Tryz.prog 43 #[.pointer (some ⟨p, 0, none⟩), .pointer (some ⟨p', 0, none⟩)] w fun e w' => e = .returned (.bool false) ∧ ∃ k, w' = w.drewN k := by
  have hc0 := h.c0
  have hd0 := h'.c0
  have hne : ((n : Int) == (n' : Int)) = false := by simp; omega
  clear h h' hn
  go_enter Tryz.func43, Tryz.ntmps43
  go_wp2
  go_quiet (fail)
  go_wp2
  go_ret
  exact ⟨rfl, _, rfl⟩
set_option maxRecDepth 100000 in
set_option maxHeartbeats 1000000 in
theorem same_any {p' q' C' : Nat} {g : Nat → Bool} (h : Mp w p q K C n f) (h' : Mp w p' q' K C' n g) :
    Calls Tryz.prog 43 #[.pointer (some ⟨p, 0, none⟩), .pointer (some ⟨p', 0, none⟩)] w fun e w' => e = .returned (.bool (decide (wds f K = wds g K))) ∧ ∃ k, w' = w.drewN k := by
  have hc0 := h.c0
  have hc1 := h.c1
  have hd0 := h'.c0
  have hd1 := h'.c1
  have hk := h.kk
  have hmx := h.max
  have HE := Lib.hid (fun k => show Calls Tryz.prog 98 #[.slice (some ⟨q, 0, none⟩) K C, .slice (some ⟨q', 0, none⟩) K C'] (w.drewN k) fun e w' => e = .returned (.bool (decide (wds f K = wds g K))) ∧ ∃ n, w' = (w.drewN k).drewN n by
    have := equal_any (w := w.drewN k) (some ⟨q, 0, none⟩) (some ⟨q', 0, none⟩) C C' (wds f K) (wds g K) ((h.row.drewN k).wds (by omega)) ((h'.row.drewN k).wds (by omega))
    rwa [wds_len, wds_len] at this)
  generalize decide (wds f K = wds g K) = b at *
  clear h h' hk hmx
  go_enter Tryz.func43, Tryz.ntmps43
  go_wp2
  go_quiet ((go_at_call 98; exact Calls.quiet_of (HE.out _)))
  go_wp2
  go_ret
  exact ⟨rfl, _, rfl⟩
theorem wds_eq {g : Nat → Bool} (hf : ∀ b, n ≤ b → f b = false) (hg : ∀ b, n ≤ b → g b = false) (hK : n ≤ 64 * K) : wds f K = wds g K ↔ f = g := by
  constructor
  · intro h
    funext b
    by_cases hb : n ≤ b
    · rw [hf b hb, hg b hb]
    · have := congrArg (·[b / 64]?) h
      have hl : b / 64 < K := by omega
      simp only [wds, List.getElem?_map, List.getElem?_range hl, Option.map_some, Option.some.injEq] at this
      have := wd_inj this (b % 64) (Nat.mod_lt _ (by omega))
      rwa [show 64 * (b / 64) + b % 64 = b by omega] at this
  · rintro rfl
    rfl
end
end Bm
end Go.Proofs.YtcojgpjappjobaaGreatDoor
/- The document's map: a truth for each block: new, turned, counted, the next one. -/
namespace Go.Proofs.YtcojgpjappjobaaGreatDoor
open Go.RowKit Go.MapKept
namespace Bm
open Pack (Wds Nts)

theorem bool_info : (Tryz.prog.info? 4).map (fun i => (i.zero, i.size, i.bytes)) = some (some (.bool false), 1, 1) := by kernel_rfl
def bls (f : Nat → Bool) (n : Nat) : List Value := (List.range n).map fun k => .bool (f k)
theorem bls_len (f : Nat → Bool) (n : Nat) : (bls f n).length = n := by simp [bls]
theorem bls_get (f : Nat → Bool) (n i : Nat) (h : i < n) : (bls f n)[i]? = some (.bool (f i)) := by simp [bls, h]
theorem bls_one (f : Nat → Bool) (n : Nat) : ∀ u ∈ bls f n, u.oneCell' = true := by
  intro u hu
  obtain ⟨x, _, rfl⟩ := List.mem_map.1 hu
  rfl
theorem Row.bls {w : World} {g q n : Nat} {f : Nat → Bool} (h : Row w g 4 n (fun k => .bool (f k))) (hq : g ≠ q) : Bls w q (some ⟨g, 0, none⟩) n f :=
  ⟨fun j hj => ⟨g, 0, rfl, h.lt, hq, by rw [Nat.zero_add]; exact h.cell hj⟩⟩

section
variable {w : World} {q n : Nat} {f : Nat → Bool}
theorem make_bls (y : Int) (m : Nat) (hy : y = (m : Int)) (hm : m ≤ 65534) (w : World) : (Instr.makeSlice 66 (.int .i64 y) (.int .i64 y)).run Tryz.prog w = .ok (.slice (some ⟨w.heap.size, 0, none⟩) m m) (w.alloc (.cells (madeCells #[.bool false] m) 4)) := by
  subst hy
  exact run_make_row' (P := Tryz.prog) 66 4 _ 1 Tryz.underlying66 bool_info rfl .i64 .i64 m (by omega) (by omega) w
set_option maxRecDepth 100000 in
theorem refNew_any (x : Int) (m : Nat) (hm : (m : Int) = min (max x 0) 65534) (hq : q < w.heap.size) : Calls Tryz.prog 37 #[.int .i64 x] w fun e w' =>
    e = .returned (.slice (some ⟨w.heap.size, 0, none⟩) m m) ∧ Bls w' q (some ⟨w.heap.size, 0, none⟩) m (fun _ => false) ∧ Below w.heap.size w w' := by
  have HX := Lib.hid (Row.bls (q := q) (row_of_is (World.rowIs_made w (.bool false) m 4)) (by omega))
  have HB := Lib.hid ((Below.refl w.heap.size w).alloc (Nat.le_refl _) (.cells (madeCells #[.bool false] m) 4))
  clear hq
  rcases Int.lt_or_le x 0 with hn | hn
  · have hmk := make_bls 0 m (by omega) (by omega) w
    clear hm
    go_enter Tryz.func37, Tryz.ntmps37
    go_wp2
    go_ret
    exact ⟨rfl, HX.out, HB.out⟩
  · rcases Int.lt_or_le 65534 x with hn2 | hn2
    · have hmk := make_bls 65534 m (by omega) (by omega) w
      clear hm
      go_enter Tryz.func37, Tryz.ntmps37
      go_wp2
      go_ret
      exact ⟨rfl, HX.out, HB.out⟩
    · have hmk := make_bls x m (by omega) (by omega) w
      clear hm
      go_enter Tryz.func37, Tryz.ntmps37
      go_wp2
      go_ret
      exact ⟨rfl, HX.out, HB.out⟩

set_option maxRecDepth 100000 in
/-- a copy of truths -/
theorem copy_bls {W : World} {ad : Addr} (c : Nat) (h : Bls W q (some ad) n f) (hn : n ≤ 65534) :
    ∃ (g gc : Nat) (w' : World), (Builtin.append_ #[66, 66] 66 #[.slice (some ⟨W.heap.size, 0, none⟩) 0 0, .slice (some ad) n c]).run Tryz.prog (W.alloc (.cells #[] 4)) = .ok (.slice (some ⟨g, 0, none⟩) n gc) w' ∧
      W.heap.size ≤ g ∧ Row w' g 4 n (fun k => .bool (f k)) ∧ Below W.heap.size W w' := by
  obtain ⟨i0, hi0, hz0, hz1, hz2⟩ := info_parts bool_info
  have hown : (W.alloc (.cells #[] 4)).ownsRow W.heap.size 4 1 (.slice (some ⟨W.heap.size, 0, none⟩) 0 0) 0 [] := World.ownsRow_made W #[] 0 (Nat.le_refl _) (by unfold maxLen; omega) rfl
  have hb := (Below.refl W.heap.size W).alloc (Nat.le_refl _) (.cells #[] 4)
  have hal := h.keep hb
  obtain ⟨v', w', hr, h2, h3, h4, _⟩ := run_append_own_at (P := Tryz.prog) (W.alloc (.cells #[] 4)) W.heap.size 66 66 4 i0 (.bool false) 1 1 Tryz.underlying66 hi0 hz0 hz1 hz2 rfl (by decide) _ 0 [] hown ad n c (bls f n) (by simp [bls]) (fun j u hu => by
    have hj : j < n := by
      have := (List.getElem?_eq_some_iff.1 hu).1
      simpa [bls] using this
    obtain ⟨b, o, e, _, _, hc⟩ := hal.at' j hj
    injection e with e
    subst e
    rw [Go.WideShapes.add_plain, hc, ← hu, bls_get f n j hj]) (bls_one f n) (by unfold maxLen; omega) (by omega) (by simp)
  rw [Nat.zero_add, List.nil_append] at h2
  have hne : v' ≠ .slice none 0 0 := fun e => by
    have := (h4.1 e).1
    cases this
  rcases h2.2 with ⟨e, _⟩ | ⟨g, cap, cur, e, hg, hh, hc, _, hsz, ht⟩
  · exact absurd e hne
  · subst e
    exact ⟨g, cap, w', hr, hg, row_of_own h2 (fun i hi => bls_get f n i hi) rfl, hb.grown h3 (by simp) (fun k hk => Pack.row_base_lt hown hk)⟩

/-- a truth turned -/
def Trn (w : World) (q n : Nat) (is : Bool) (f : Nat → Bool) (b : Int) (e : Ending) (w' : World) : Prop :=
  ∃ (A : Option Addr) (c : Nat), e = .returned (.tuple #[.slice A n c, .bool (trd n is f b)]) ∧ Bls w' q A n (trn n is f b) ∧ Below w.heap.size w w'

set_option maxRecDepth 100000 in
set_option maxHeartbeats 1000000 in
theorem turn_any (A : Option Addr) (c : Nat) (h : Bls w q A n f) (hn : n ≤ 65534) (hq : q < w.heap.size) (b : Int) (is : Bool) :
    Calls Tryz.prog 39 #[.slice A n c, .int .i64 b, .bool is] w (Trn w q n is f b) := by
  by_cases hin : b < 0 ∨ (n : Int) ≤ b
  · have hx : trd n is f b = false := by unfold trd; rw [decide_eq_false (by omega)]; rfl
    have HX := Lib.hid (show Trn w q n is f b (.returned (.tuple #[.slice A n c, .bool false])) w from ⟨A, c, by rw [hx], by unfold trn; rw [hx]; exact h, Below.refl _ _⟩)
    clear h hx
    by_cases h0 : b < 0
    · clear hin
      go_enter Tryz.func39, Tryz.ntmps39
      go_wp2
      go_ret2
      exact HX.out
    · have h1 : (n : Int) ≤ b := by omega
      clear hin
      go_enter Tryz.func39, Tryz.ntmps39
      go_wp2
      go_ret2
      exact HX.out
  · obtain ⟨d, rfl⟩ := Int.eq_ofNat_of_zero_le (show 0 ≤ b by omega)
    have hd : d < n := by omega
    clear hin
    obtain ⟨bb, o, rfl, hlt, hbq, hcell⟩ := h.at' d hd
    have hi0 : (0 : Int) ≤ (d : Int) := by omega
    have hi1 : (d : Int) < (n : Int) := by omega
    have hi2 : ¬ (d : Int) < 0 := by omega
    have hi3 : ¬ (n : Int) ≤ (d : Int) := by omega
    by_cases hs : f d = is
    · have hx : trd n is f (d : Int) = false := by unfold trd; rw [Int.toNat_natCast, hs]; simp
      have HX := Lib.hid (show Trn w q n is f (d : Int) (.returned (.tuple #[.slice (some ⟨bb, o, none⟩) n c, .bool false])) w from ⟨_, c, by rw [hx], by unfold trn; rw [hx]; exact h, Below.refl _ _⟩)
      rw [hs] at hcell
      clear h hx hs
      go_enter Tryz.func39, Tryz.ntmps39
      go_wp2
      go_ret2
      exact HX.out
    · have hx : trd n is f (d : Int) = true := by
        unfold trd
        rw [Int.toNat_natCast, decide_eq_true (by omega)]
        simpa using hs
      obtain ⟨g, gc, w1, hr, hg, hrow, hbel⟩ := copy_bls c h hn
      have hcg := hrow.cell hd
      have hfg := hrow.frozen d
      have hne : g ≠ q := by omega
      have HX := Lib.hid (show Trn w q n is f (d : Int) (.returned (.tuple #[.slice (some ⟨g, 0, none⟩) n gc, .bool true])) (w1.setCell ⟨g, d, none⟩ (.bool is)) from ⟨_, gc, by rw [hx], by
        unfold trn
        rw [hx, if_pos rfl, Int.toNat_natCast]
        refine Row.bls ((hrow.set d (.bool is)).congr (fun j _ => ?_)) hne
        unfold upd
        split <;> rfl, hbel.setCell hg _⟩)
      have hfd : f d = !is := by cases is <;> simpa using hs
      rw [hfd] at hcell
      have HR := Lib.hid hr
      clear h hx hs hr hrow hbel hfd
      cases is with
      | true =>
        simp only [Bool.not_true] at hcell
        go_enter Tryz.func39, Tryz.ntmps39
        go_wp2_with (at_builtin; refine wpList_append_run rfl (.tmp 26) (.tmp 27) 66 rfl _ _ _ rfl rfl HR.out ?_)
        go_ret2
        exact HX.out
      | false =>
        simp only [Bool.not_false] at hcell
        go_enter Tryz.func39, Tryz.ntmps39
        go_wp2_with (at_builtin; refine wpList_append_run rfl (.tmp 26) (.tmp 27) 66 rfl _ _ _ rfl rfl HR.out ?_)
        go_ret2
        exact HX.out

set_option maxRecDepth 100000 in
set_option maxHeartbeats 1000000 in
theorem refCount_any (A : Option Addr) (c : Nat) (h : Bls w q A n f) (hn : n ≤ 65534) : Calls Tryz.prog 82 #[.slice A n c] w fun e w' => e = .returned (.int .i64 (cnt f n : Int)) ∧ w = w' := by
  have H := Lib.hid h
  clear h
  go_enter Tryz.func82, Tryz.ntmps82
  go_wp2
  go_loop [3, 8] (fun a i => ∃ k : Nat, k ≤ n ∧ i = .int .i64 (k : Int) ∧ a = .int .i64 (cnt f k : Int)) (fun _ i => n - (intOf i).toNat)
  case atStart => exact ⟨0, Nat.zero_le _, rfl, rfl⟩
  case round =>
    obtain ⟨k, hk, rfl, rfl⟩ := hrel
    have hle := cnt_le f k
    by_cases hlt : k < n
    · obtain ⟨b, o, rfl, hb, _, hcell⟩ := H.out.at' k hlt
      have hi0 : (0 : Int) ≤ (k : Int) := by omega
      have hi1 : (k : Int) < (n : Int) := by omega
      have HS := Lib.hid (show cnt f (k + 1) = cnt f k + if f k then 1 else 0 from rfl)
      generalize hcc : cnt f k = z at *
      clear hcc
      cases hfk : f k with
      | true =>
        rw [hfk] at hcell HS
        clear hfk
        go_wp2
        go_round
        case rel => exact ⟨k + 1, by omega, by go_num, by rw [HS.out]; go_num⟩
        case measure => simp [intOf]; omega
      | false =>
        rw [hfk] at hcell HS
        clear hfk
        go_wp2
        go_round
        case rel => exact ⟨k + 1, by omega, by go_num, by rw [HS.out]; rfl⟩
        case measure => simp [intOf]; omega
    · obtain rfl : k = n := by omega
      go_wp2
      go_ret
      exact ⟨rfl, rfl⟩

end
end Bm
end Go.Proofs.YtcojgpjappjobaaGreatDoor
/- The document's words of a map; whether a map is the document's. -/
namespace Go.Proofs.YtcojgpjappjobaaGreatDoor
open Go.RowKit Go.MapKept
namespace Bm
open Pack (Wds Nts)

/-- those of f ahead of k -/
def lo (f : Nat → Bool) (k x : Nat) : Bool := f x && decide (x < k)
theorem lo_none (f : Nat → Bool) (j : Nat) : wd (lo f 0) j = 0 := by
  apply Nat.eq_of_testBit_eq
  intro i
  rw [wd_bit]
  simp [lo]
theorem lo_same {f : Nat → Bool} {k : Nat} (h : f k = false) : lo f (k + 1) = lo f k := by
  funext x
  unfold lo
  by_cases e : x = k
  · subst e; simp [h]
  · have : decide (x < k + 1) = decide (x < k) := by rw [decide_eq_decide]; omega
    rw [this]
theorem lo_more {f : Nat → Bool} {k : Nat} (h : f k = true) : lo f (k + 1) = upd (lo f k) k true := by
  funext x
  unfold upd lo
  by_cases e : x = k
  · subst e; simp [h]
  · rw [if_neg e]
    have : decide (x < k + 1) = decide (x < k) := by rw [decide_eq_decide]; omega
    rw [this]
theorem lo_lt (f : Nat → Bool) (k : Nat) : wd (lo f k) (k / 64) < 2 ^ (k % 64) := by
  apply Nat.lt_pow_two_of_testBit
  intro i hi
  rw [wd_bit]
  unfold lo
  have : ¬ 64 * (k / 64) + i < k := by omega
  simp [this]
theorem lo_add {f : Nat → Bool} {k : Nat} (h : f k = true) : wd (lo f k) (k / 64) + 2 ^ (k % 64) = wd (lo f (k + 1)) (k / 64) := by
  rw [lo_more h, ← wd_or]
  have := Nat.two_pow_add_eq_or_of_lt (lo_lt f k) 1
  rw [Nat.mul_one] at this
  rw [Nat.add_comm, this, Nat.or_comm]
theorem lo_other {f : Nat → Bool} {k j : Nat} (h : j ≠ k / 64) : wd (lo f (k + 1)) j = wd (lo f k) j := by
  apply wd_congr
  intro i hi
  unfold lo
  have : decide (64 * j + i < k + 1) = decide (64 * j + i < k) := by rw [decide_eq_decide]; omega
  rw [this]
theorem lo_all (f : Nat → Bool) (n : Nat) (h : ∀ b, n ≤ b → f b = false) : lo f n = f := by
  funext x
  unfold lo
  by_cases hx : x < n
  · simp [hx]
  · rw [h x (by omega)]; rfl

section
variable {w : World} {q n : Nat} {f : Nat → Bool}
set_option maxRecDepth 100000 in
set_option maxHeartbeats 2000000 in
theorem refWords_any (A : Option Addr) (c K : Nat) (h : Bls w q A n f) (hn : n ≤ 65534) (hfar : ∀ b, n ≤ b → f b = false) (hK : K = (n + 63) / 64) : Calls Tryz.prog 41 #[.slice A n c] w fun e w' =>
    e = .returned (.slice (some ⟨w.heap.size, 0, none⟩) K K) ∧ Row w' w.heap.size 85 K (fun k => .int .u64 (wd f k : Int)) ∧ Below w.heap.size w w' := by
  have H := Lib.hid h
  have HF := Lib.hid hfar
  have hmk := run_make_row' (P := Tryz.prog) 22 85 _ 8 Tryz.underlying22 Pack.u64_info rfl .i64 .i64 K (by omega) (by omega) w
  have HR := Lib.hid ((row_of_is (World.rowIs_made w (.int .u64 0) K 85)).congr (g := fun k => .int .u64 (wd (lo f 0) k : Int)) (fun i _ => by rw [lo_none]; rfl))
  have HB := Lib.hid ((Below.refl w.heap.size w).alloc (Nat.le_refl _) (.cells (madeCells #[.int .u64 0] K) 85))
  generalize w.alloc (.cells (madeCells #[.int .u64 0] K) 85) = w1 at *
  have hq : ((n : Int) + 63) / 64 = (K : Int) := by omega
  have hKn : n ≤ 64 * K := by omega
  clear h hfar hK
  rw [← hq] at hmk
  clear hq
  go_enter Tryz.func41, Tryz.ntmps41
  go_wp2
  go_loopw [13] (fun i wr => ∃ k : Nat, k ≤ n ∧ i = .int .i64 (k : Int) ∧ Row wr w.heap.size 85 K (fun j => .int .u64 (wd (lo f k) j : Int)) ∧ Below w.heap.size w wr) (fun i _ => n - (intOf i).toNat)
  case atStart => exact ⟨0, Nat.zero_le _, rfl, HR.out, HB.out⟩
  case round =>
    obtain ⟨k, hk, rfl, hrow, hbel⟩ := hrel
    by_cases hlt : k < n
    · obtain ⟨b, o, rfl, hb, _, hcell0⟩ := H.out.at' k hlt
      have hcell := (hbel.cell (p := ⟨b, o + k, none⟩) hb).trans hcell0
      clear hcell0
      have hi0 : (0 : Int) ≤ (k : Int) := by omega
      have hi1 : (k : Int) < (n : Int) := by omega
      cases hfk : f k with
      | false =>
        rw [hfk] at hcell
        have HW := Lib.hid hrow
        have HBW := Lib.hid hbel
        have HE := Lib.hid (lo_same hfk)
        clear hrow hbel hfk hmk
        go_wp2
        refine ⟨⟨k + 1, by omega, by go_num, by rw [HE.out]; exact HW.out, HBW.out⟩, by simp [intOf]; omega⟩
      | true =>
        rw [hfk] at hcell
        have hd1 : k / 64 < K := by omega
        have hc0 := hrow.cell hd1
        have hf0 := hrow.frozen (k / 64)
        have hadd := lo_add hfk
        have hl := wd_lt (lo f (k + 1)) (k / 64)
        have HN := Lib.hid ((hrow.set (k / 64) (.int .u64 (wd (lo f (k + 1)) (k / 64) : Int))).congr (g := fun j => .int .u64 (wd (lo f (k + 1)) j : Int)) (fun j _ => by
          by_cases e : j = k / 64
          · subst e; simp
          · simp [e, lo_other e]))
        have HBN := Lib.hid (hbel.setCell (p := ⟨w.heap.size, k / 64, none⟩) (Nat.le_refl _) (.int .u64 (wd (lo f (k + 1)) (k / 64) : Int)))
        clear hrow hbel hfk hmk
        have hsh : IntKind.u64.wrap ((2 : Int) ^ (k % 64)) = ((2 ^ (k % 64) : Nat) : Int) := by
          rw [show ((2 : Int) ^ (k % 64)) = ((2 ^ (k % 64) : Nat) : Int) by simp]
          have := pow_lt64 (Nat.mod_lt k (show 64 > 0 by omega))
          generalize 2 ^ (k % 64) = y at *
          rw [IntKind.wrap_u64]
          omega
        generalize wd (lo f (k + 1)) (k / 64) = z at *
        generalize wd (lo f k) (k / 64) = x at *
        generalize 2 ^ (k % 64) = y at *
        have hsum : IntKind.u64.wrap ((x : Int) + (y : Int)) = (z : Int) := by rw [IntKind.wrap_u64]; omega
        have hwd : IntKind.wrap .i64 ((k : Int) / 64) = ((k / 64 : Nat) : Int) := by rw [IntKind.wrap_i64]; omega
        have hwr : IntKind.wrap .i64 ((k : Int) % 64) = ((k % 64 : Nat) : Int) := by rw [IntKind.wrap_i64]; omega
        have he : (k : Int) / 64 = ((k / 64 : Nat) : Int) := rfl
        have ht : (k : Int).tdiv 64 = ((k / 64 : Nat) : Int) := rfl
        have hm : (k : Int) % 64 = ((k % 64 : Nat) : Int) := rfl
        have hmt : (k : Int).tmod 64 = ((k % 64 : Nat) : Int) := rfl
        have hr64 : k % 64 < 64 := by omega
        generalize k % 64 = r at *
        generalize k / 64 = d at *
        have hwd2 : IntKind.wrap .i64 (d : Int) = (d : Int) := by rw [IntKind.wrap_i64]; omega
        have hwr2 : IntKind.wrap .i64 (r : Int) = (r : Int) := by rw [IntKind.wrap_i64]; omega
        have hd0 : (0 : Int) ≤ (d : Int) := by omega
        have hd2 : (d : Int) < (K : Int) := by omega
        have hr0 : (0 : Int) ≤ (r : Int) := by omega
        have hr1 : (r : Int) < 64 := by omega
        clear hadd hl hd1 hr64
        go_wp2
        go_region
        clear hwd hwr he ht hm hmt hwd2 hwr2 hsum hsh
        go_wp2
        refine ⟨⟨k + 1, by omega, by go_num, HN.out.drew, HBN.out.drew⟩, by simp [intOf]; omega⟩
    · obtain rfl : k = n := by omega
      rw [lo_all f k HF.out] at hrow
      have HW := Lib.hid hrow
      have HBW := Lib.hid hbel
      clear hrow hbel hmk
      go_wp2
      go_ret
      exact ⟨rfl, HW.out, HBW.out⟩
end
end Bm
end Go.Proofs.YtcojgpjappjobaaGreatDoor
/- Whether a map is the document's: it is, where both have the same blocks; the chapter's example. -/
namespace Go.Proofs.YtcojgpjappjobaaGreatDoor
open Go.RowKit Go.MapKept
namespace Bm
open Pack (Wds Nts)

theorem below_drewN {B : Nat} {a w : World} (h : Below B a w) (n : Nat) : Below B a (w.drewN n) := ⟨h.os, h.tape, h.output, h.size, h.block⟩
theorem Bls.drewN {w : World} {q n : Nat} {A : Option Addr} {f : Nat → Bool} (h : Bls w q A n f) (k : Nat) : Bls (w.drewN k) q A n f := ⟨h.at'⟩

section
variable {w : World} {p q r K C n : Nat} {f : Nat → Bool}
set_option maxRecDepth 100000 in
set_option maxHeartbeats 2000000 in
theorem lawSame_any (h : Mp w p q K C n f) (A : Option Addr) (c : Nat) (hB : Bls w r A n f) : Calls Tryz.prog 27 #[.pointer (some ⟨p, 0, none⟩), .slice A n c] w fun e w' => e = .returned (.bool true) ∧ Below w.heap.size w w' := by
  have hmx := h.max
  have hkk := h.kk
  have H := Lib.hid h
  have HBL := Lib.hid hB
  clear h hB
  go_enter Tryz.func27, Tryz.ntmps27
  go_wp2
  go_loopw [5] (fun i wr => ∃ (b : Int) (k : Nat), -1 ≤ b ∧ b ≤ (n : Int) + 1 ∧ i = .int .i64 b ∧ wr = w.drewN k) (fun i _ => (n + 1 - intOf i).toNat)
  case atStart => exact ⟨-1, 0, by omega, by omega, rfl, rfl⟩
  case round =>
    obtain ⟨b, k, hb1, hb2, rfl, hwr⟩ := hrel
    have HM := Lib.hid (hwr ▸ H.out.drewN k : Mp wr p q K C n f)
    have HL := Lib.hid (hwr ▸ HBL.out.drewN k : Bls wr r A n f)
    have HW := Lib.hid hwr
    clear hwr
    by_cases hle : b ≤ (n : Int)
    · have HH := Lib.hid (has_any HM.out b)
      by_cases h0 : b < 0
      · have hx : hs f b = false := by unfold hs; rw [decide_eq_false (by omega)]; rfl
        rw [hx] at HH
        clear hx
        go_wp2_with fail
        refine HH.out.mono ?_
        rintro e w' ⟨rfl, kk, rfl⟩
        go_wp2
        exact ⟨⟨b + 1, k + kk, by omega, by omega, rfl, by rw [HW.out, World.drewN_drewN]⟩, by simp [intOf]; omega⟩
      · obtain ⟨d, rfl⟩ := Int.eq_ofNat_of_zero_le (show 0 ≤ b by omega)
        rw [hs_nat] at HH
        have hd0 : (0 : Int) ≤ (d : Int) := by omega
        clear h0 hb1
        by_cases hd : d < n
        · obtain ⟨bb, o, rfl, hlt, _, hcell⟩ := HL.out.at' d hd
          have hd1 : (d : Int) < (n : Int) := by omega
          have hcc : ∀ kk, (wr.drewN kk).cell? ⟨bb, o + d, none⟩ = some (.bool (f d)) := fun kk => hcell
          have HCC := Lib.hid hcc
          clear hcell hcc
          generalize f d = v at *
          go_wp2_with fail
          refine HH.out.mono ?_
          rintro e w' ⟨rfl, kk, hkk'⟩
          have hcell := HCC.out kk
          rw [← hkk'] at hcell
          have HK := Lib.hid hkk'
          clear hkk'
          cases v <;>
          · go_wp2
            exact ⟨⟨(d : Int) + 1, k + kk, by omega, by omega, rfl, by rw [HK.out, HW.out, World.drewN_drewN]⟩, by simp [intOf]; omega⟩
        · have hd1 : ¬ (d : Int) < (n : Int) := by omega
          rw [H.out.far d (by omega)] at HH
          go_wp2_with fail
          refine HH.out.mono ?_
          rintro e w' ⟨rfl, kk, hkk'⟩
          have HK := Lib.hid hkk'
          clear hkk'
          go_wp2
          exact ⟨⟨(d : Int) + 1, k + kk, by omega, by omega, rfl, by rw [HK.out, HW.out, World.drewN_drewN]⟩, by simp [intOf]; omega⟩
    · have HLEN := Lib.hid (len_any HM.out)
      have HCNT := Lib.hid (count_any HM.out)
      have HRC := Lib.hid (refCount_any A c HL.out hmx)
      have HFR := Lib.hid (free_any HM.out)
      have hcl := cnt_le f n
      have HRC2 := Lib.hid (fun w' hb => refCount_any A c (HL.out.keep (w' := w') hb) hmx)
      have HSM := Lib.hid (fun (w' : World) (G1 : Nat) (G2 : Nat) (c1 c2 : Nat) (h1 : Row w' G1 85 K (fun k => .int .u64 (wd f k : Int))) (h2 : Row w' G2 85 K (fun k => .int .u64 (wd f k : Int))) =>
        show Calls Tryz.prog 13 #[.slice (some ⟨G1, 0, none⟩) K c1, .slice (some ⟨G2, 0, none⟩) K c2] w' fun e w'' => e = .returned (.bool true) ∧ ∃ n, w'' = w'.drewN n by
          have := Pack.same_any (w := w') (some ⟨G1, 0, none⟩) (some ⟨G2, 0, none⟩) c1 c2 (wds f K) (wds f K) (h1.wds (by omega)) (h2.wds (by omega))
          rw [wds_len, decide_eq_true rfl] at this
          exact this)
      have HWD := Lib.hid (fun w' (hb : Below wr.heap.size wr w') => words_any (HM.out.keep hb))
      have HRW := Lib.hid (fun w' (hb : Below wr.heap.size wr w') => refWords_any A c K (HL.out.keep hb) hmx HM.out.far HM.out.hK)
      generalize cnt f n = v at *
      obtain ⟨u, hu⟩ : ∃ u : Nat, u = n - v := ⟨_, rfl⟩
      rw [← hu] at HFR
      have hsub : (n : Int) - (v : Int) = (u : Int) := by omega
      clear hu
      go_wp2_with fail
      refine HLEN.out.mono ?_
      rintro e w' ⟨rfl, rfl⟩
      go_wp2_with fail
      refine HCNT.out.mono ?_
      rintro e w' ⟨rfl, rfl⟩
      go_wp2_with fail
      refine HRC.out.mono ?_
      rintro e w' ⟨rfl, rfl⟩
      go_wp2_with fail
      refine HFR.out.mono ?_
      rintro e w' ⟨rfl, kk, hkk'⟩
      have HB1 := Lib.hid (show Below wr.heap.size wr w' by rw [hkk']; exact below_drewN (Below.refl _ _) kk)
      clear hkk'
      go_wp2_with fail
      refine (HRC2.out _ HB1.out).mono ?_
      rintro e w2 ⟨rfl, rfl⟩
      go_wp2_with fail
      refine (HWD.out _ HB1.out).mono ?_
      rintro e w2 ⟨g, gc, rfl, _, hg, hrow, hbel⟩
      have HB2 := Lib.hid (HB1.out.trans (hbel.mono HB1.out.size))
      have HR1 := Lib.hid hrow
      clear hbel hrow hg
      go_wp2_with fail
      refine (HRW.out _ HB2.out).mono ?_
      rintro e w3 ⟨rfl, hrow, hbel⟩
      have HB3 := Lib.hid (HB2.out.trans (hbel.mono HB2.out.size))
      have HR2 := Lib.hid (HR1.out.of_block (hbel.block _ HR1.out.lt))
      have HR3 := Lib.hid hrow
      clear hbel hrow
      go_wp2_with fail
      refine (HSM.out _ _ _ _ _ HR2.out HR3.out).mono ?_
      rintro e w4 ⟨rfl, k4, rfl⟩
      go_wp2
      go_ret
      refine ⟨rfl, below_drewN ?_ k4⟩
      have := HB3.out
      rw [HW.out] at this
      exact ⟨this.os, this.tape, this.output, this.size, this.block⟩

/-! The example. -/
theorem nts_cells (w : World) (l : List Int) (hb : ∀ x ∈ l, -9223372036854775808 ≤ x ∧ x ≤ 9223372036854775807) (hl : l.length ≤ 1000) (hq : q < w.heap.size) : ∀ w', Chg q (w.alloc (.cells (l.map (Value.int .i64)).toArray 3)) w' → Nts w' (some ⟨w.heap.size, 0, none⟩) l := fun w' hc =>
  ⟨hb, by omega, fun j hj => by
    refine ⟨w.heap.size, 0, rfl, Nat.lt_of_lt_of_le (by simp) hc.size, ?_⟩
    rw [hc.cell (p := ⟨w.heap.size, 0 + j, none⟩) (by simp) (by simp; omega)]
    refine (Pack.alloc_cell _ _ _ _).trans ?_
    simp [hj]⟩
theorem wds_cells (w : World) : Wds (w.alloc (.cells #[.int .u64 1, .int .u64 2] 85)) (some ⟨w.heap.size, 0, none⟩) [1, 2] :=
  ⟨fun x hx => by
    have : x = 1 ∨ x = 2 := by simpa using hx
    omega, by decide, fun j hj => by
    have : j < 2 := hj
    match j, this with
    | 0, _ => exact ⟨w.heap.size, 0, rfl, by simp, Pack.alloc_cell _ _ _ _⟩
    | 1, _ => exact ⟨w.heap.size, 0, rfl, by simp, Pack.alloc_cell _ _ _ _⟩⟩
def ex : Nat → Bool := (tn 70 true (fun _ => false) [0, 65, 70]).1
theorem ex_two : (tn 70 true (fun _ => false) [0, 65, 70]).2 = 2 := by decide +kernel
theorem ex_words : wds ex 2 = [1, 2] := by decide +kernel
theorem ex_next : next ex true 70 1 = 65 := by decide +kernel
theorem ex_free : next ex false 70 0 = 1 := by decide +kernel

set_option maxRecDepth 100000 in
set_option maxHeartbeats 2000000 in
theorem lives_any (w : World) (hT : Tab w) : Calls Tryz.prog 56 #[] w fun e w' => e = .returned (.bool true) ∧ Below w.heap.size w w' := by
  have hlt := hT.lt
  have HT := Lib.hid hT
  have HN := Lib.hid (new_any 70 70 2 (by decide) (by decide) w)
  have HPL := Lib.hid (fun w => Pack.lives_any w)
  clear hT
  go_enter Tryz.func56, Tryz.ntmps56
  go_wp2_with fail
  refine HN.out.mono ?_
  rintro e w1 ⟨rfl, hM, hb1⟩
  have HM := Lib.hid hM
  have HB := Lib.hid hb1
  clear hM hb1
  go_wp2_with fail
  refine (HPL.out _).mono ?_
  rintro e w2 ⟨rfl, hb2⟩
  have HM2 := Lib.hid (HM.out.keep hb2)
  have HB2 := Lib.hid (HB.out.trans (hb2.mono HB.out.size))
  have hsz : w.heap.size < w2.heap.size := HM2.out.row.lt
  clear hb2
  have hmA := HM2.out.keep ((Below.refl _ _).alloc (Nat.le_refl _) (.cells #[.int .i64 0, .int .i64 65, .int .i64 70] 3))
  have hput := put_any hmA (some ⟨w2.heap.size, 0, none⟩) 3 [0, 65, 70] (nts_cells w2 [0, 65, 70] (by intro x hx; simp at hx; omega) (by decide) HM2.out.row.lt)
  rw [ex_two] at hput
  have HP := Lib.hid (show Calls Tryz.prog 38 #[.pointer (some ⟨w.heap.size + 1, 0, none⟩), .slice (some ⟨w2.heap.size, 0, none⟩) 3 3] (w2.alloc (.cells #[.int .i64 0, .int .i64 65, .int .i64 70] 3)) fun e w' => e = .returned (.int .i64 2) ∧ Mp w' (w.heap.size + 1) w.heap.size 2 2 70 ex ∧ Chg w.heap.size (w2.alloc (.cells #[.int .i64 0, .int .i64 65, .int .i64 70] 3)) w' from hput)
  clear hmA hput
  go_wp2_with fail
  refine HP.out.mono ?_
  rintro e w3 ⟨rfl, hM3, hC3⟩
  have HM3 := Lib.hid hM3
  have HC3 := Lib.hid (((Chg.refl w.heap.size w2).alloc _).trans hC3)
  have HB3 := Lib.hid (HB2.out.trans (HC3.out.below (Nat.le_of_lt hsz) (Nat.le_refl _)))
  clear hM3 hC3
  go_wp2_with fail
  refine (words_any HM3.out).mono ?_
  rintro e w4 ⟨g, gc, rfl, _, hg, hrow, hb4⟩
  have HM4 := Lib.hid (HM3.out.keep hb4)
  have HB4 := Lib.hid (HB3.out.trans (hb4.mono HB3.out.size))
  have hwd := hrow.wds (by decide)
  rw [ex_words] at hwd
  have hba := (Below.refl w4.heap.size w4).alloc (Nat.le_refl _) (.cells #[.int .u64 1, .int .u64 2] 85)
  have hsm := Pack.same_any (some ⟨g, 0, none⟩) (some ⟨w4.heap.size, 0, none⟩) gc 2 [1, 2] [1, 2] (hwd.keep hba) (wds_cells w4)
  rw [decide_eq_true rfl] at hsm
  have HSM := Lib.hid (show Calls Tryz.prog 13 #[.slice (some ⟨g, 0, none⟩) 2 gc, .slice (some ⟨w4.heap.size, 0, none⟩) 2 2] (w4.alloc (.cells #[.int .u64 1, .int .u64 2] 85)) fun e w' => e = .returned (.bool true) ∧ ∃ n, w' = (w4.alloc (.cells #[.int .u64 1, .int .u64 2] 85)).drewN n from hsm)
  have HBA := Lib.hid hba
  clear hg hrow hb4 hwd hsm hba
  go_wp2_with fail
  refine HSM.out.mono ?_
  rintro e w5 ⟨rfl, k5, hw5⟩
  have hb5 : Below w4.heap.size w4 w5 := by rw [hw5]; exact below_drewN HBA.out k5
  have HM5 := Lib.hid (HM4.out.keep hb5)
  have HB5 := Lib.hid (HB4.out.trans (hb5.mono HB4.out.size))
  have hT5 := HT.out.below HB5.out hlt
  have hn1 := next_any HM5.out hT5 1 true (by decide)
  have hn2 := next_any HM5.out hT5 0 false (by decide)
  rw [show (1 : Int).toNat = 1 from rfl, ex_next] at hn1
  rw [show (0 : Int).toNat = 0 from rfl, ex_free] at hn2
  have HN1 := Lib.hid hn1
  have HN2 := Lib.hid hn2
  clear hw5 hb5 hT5 hn1 hn2
  go_wp2_with fail
  refine HN1.out.mono ?_
  rintro e w6 ⟨rfl, rfl⟩
  go_wp2_with fail
  refine HN2.out.mono ?_
  rintro e w6 ⟨rfl, rfl⟩
  go_wp2
  go_ret
  exact ⟨rfl, HB5.out⟩
end
end Bm
end Go.Proofs.YtcojgpjappjobaaGreatDoor
/- A map of words. -/
namespace Go.Proofs.YtcojgpjappjobaaGreatDoor
open Go.RowKit Go.MapKept
namespace Bm
open Pack (Wds Nts)

/-- whether a bit of words is 1 -/
def bitAt (l : List Nat) (i : Nat) : Bool := (l.getD (i / 64) 0).testBit (i % 64)
/-- the blocks that words tell -/
def fo (n : Nat) (l : List Nat) (b : Nat) : Bool := decide (b < n) && bitAt l b
/-- no bit beyond n blocks is 1 -/
def Good (n : Nat) (l : List Nat) : Prop := ∀ i, n ≤ i → i < 64 * l.length → bitAt l i = false

theorem fo_far (n : Nat) (l : List Nat) : ∀ b, n ≤ b → fo n l b = false := fun b hb => by
  unfold fo
  rw [decide_eq_false (by omega)]
  rfl
theorem Good.words {n : Nat} {l : List Nat} (h : Good n l) (hu : ∀ x ∈ l, x < 18446744073709551616) (j : Nat) (hj : j < l.length) : l[j] = wd (fo n l) j := by
  apply is_wd
  intro i
  by_cases hi : i < 64
  · have e : bitAt l (64 * j + i) = l[j].testBit i := by
      unfold bitAt
      rw [show (64 * j + i) / 64 = j by omega, show (64 * j + i) % 64 = i by omega, List.getD_eq_getElem?_getD, List.getElem?_eq_getElem hj, Option.getD_some]
    unfold fo
    by_cases hb : 64 * j + i < n
    · simp [hi, hb, e]
    · have := h (64 * j + i) (by omega) (by omega)
      rw [e] at this
      simp [hb, this]
  · have : l[j].testBit i = false := Nat.testBit_lt_two_pow (Nat.lt_of_lt_of_le (hu _ (List.getElem_mem hj)) (Nat.pow_le_pow_right (n := 2) (i := 64) (by omega) (by omega)))
    simp [hi, this]
theorem Good.wds {n : Nat} {l : List Nat} (h : Good n l) (hu : ∀ x ∈ l, x < 18446744073709551616) : wds (fo n l) l.length = l := by
  apply List.ext_getElem
  · rw [wds_len]
  · intro j h1 h2
    rw [wds_get, ← h.words hu j h2]
/-- the last word's bits beyond n -/
theorem good_last {n K : Nat} {l : List Nat} (hK : K = (n + 63) / 64) (hl : l.length = K) (hr : n % 64 ≠ 0) : Good n l ↔ l.getD (K - 1) 0 / 2 ^ (n % 64) = 0 ∨ ¬ l.getD (K - 1) 0 < 18446744073709551616 ∧ Good n l := by
  constructor
  · intro h
    by_cases hx : l.getD (K - 1) 0 < 18446744073709551616
    · refine .inl (Nat.div_eq_of_lt ?_)
      apply Nat.lt_pow_two_of_testBit
      intro i hi
      by_cases h64 : i < 64
      · have := h (64 * (K - 1) + i) (by omega) (by omega)
        unfold bitAt at this
        rwa [show (64 * (K - 1) + i) / 64 = K - 1 by omega, show (64 * (K - 1) + i) % 64 = i by omega] at this
      · exact Nat.testBit_lt_two_pow (Nat.lt_of_lt_of_le hx (Nat.pow_le_pow_right (n := 2) (i := 64) (by omega) (by omega)))
    · exact .inr ⟨hx, h⟩
  · rintro (h | ⟨_, h⟩)
    · intro i h1 h2
      unfold bitAt
      have e : i / 64 = K - 1 := by omega
      rw [e]
      have hlt : l.getD (K - 1) 0 < 2 ^ (n % 64) := by
        rcases Nat.lt_or_ge (l.getD (K - 1) 0) (2 ^ (n % 64)) with g | g
        · exact g
        · have := Nat.div_pos g (Nat.pow_pos (by omega))
          omega
      exact Nat.testBit_lt_two_pow (Nat.lt_of_lt_of_le hlt (Nat.pow_le_pow_right (n := 2) (by omega) (by omega)))
    · exact h
theorem good_even {n K : Nat} {l : List Nat} (hK : K = (n + 63) / 64) (hl : l.length = K) (hr : n % 64 = 0) : Good n l := fun i h1 h2 => by omega

section
variable {w : World}
set_option maxRecDepth 100000 in
theorem hasBeyond_even (n : Nat) (hr : n % 64 = 0) (hn : n ≤ 65534) (A : Option Addr) (k c : Nat) : Calls Tryz.prog 121 #[.int .i64 (n : Int), .slice A k c] w fun e w' => e = .returned (.bool false) ∧ w = w' := by
  have h0 : (n : Int) % 64 = 0 := by omega
  go_enter Tryz.func121, Tryz.ntmps121
  go_wp2
  go_ret
  exact ⟨rfl, rfl⟩
set_option maxRecDepth 100000 in
theorem hasBeyond_odd (n r x k : Nat) (hr : r = n % 64) (hr0 : r ≠ 0) (hn : n ≤ 65534) (b o c : Nat) (hk : k ≤ 9223372036854775807) (hk0 : 0 < k) (hcell : w.cell? ⟨b, o + (k - 1), none⟩ = some (.int .u64 (x : Int))) : Calls Tryz.prog 121 #[.int .i64 (n : Int), .slice (some ⟨b, o, none⟩) k c] w fun e w' => e = .returned (.bool (!decide (x / 2 ^ r = 0))) ∧ w = w' := by
  have h0 : (n : Int) % 64 = (r : Int) := by omega
  have hr1 : ((r : Int) == 0) = false := by simp; omega
  have hr2 : ((r : Int) != 0) = true := by simp; omega
  have hr3 : (0 : Int) ≤ (r : Int) := by omega
  have hr4 : (r : Int) < 64 := by omega
  have hki : ((k : Int) - 1).toNat = k - 1 := by omega
  have hk1 : (0 : Int) ≤ (k : Int) - 1 := by omega
  have hk2 : (k : Int) - 1 < (k : Int) := by omega
  clear hr
  go_enter Tryz.func121, Tryz.ntmps121
  go_wp2
  go_ret
  refine ⟨congrArg (fun v => Ending.returned (.bool v)) ?_, rfl⟩
  rw [show (x : Int) / 2 ^ r = ((x / 2 ^ r : Nat) : Int) by simp]
  generalize x / 2 ^ r = y
  by_cases hy : y = 0
  · simp [hy]
  · have : ¬ (y : Int) = 0 := by omega
    simp [hy]

/-- whether words are a map's -/
def Ok (n : Int) (l : List Nat) : Prop := 0 ≤ n ∧ n ≤ 65534 ∧ (l.length : Int) = (n + 63) / 64 ∧ Good n.toNat l
/-- what Of answers -/
def OfR (w : World) (n : Nat) (l : List Nat) (e : Ending) (w' : World) : Prop :=
  ∃ p q C : Nat, e = .returned (.tuple #[.pointer (some ⟨p, 0, none⟩), .int .i64 0]) ∧ w.heap.size ≤ p ∧ w.heap.size ≤ q ∧ Mp w' p q l.length C n (fo n l) ∧ Below w.heap.size w w'

set_option maxRecDepth 100000 in
set_option maxHeartbeats 1000000 in
theorem of_far (n : Int) (A : Option Addr) (k c : Nat) (hn : n < 0 ∨ 65534 < n) : Calls Tryz.prog 74 #[.int .i64 n, .slice A k c] w fun e w' => e = .returned (.tuple #[.pointer none, .int .i64 2]) ∧ w = w' := by
  by_cases h0 : n < 0
  · clear hn
    go_enter Tryz.func74, Tryz.ntmps74
    go_wp2
    go_ret2
    exact ⟨rfl, rfl⟩
  · have h1 : 65534 < n := by omega
    clear hn
    go_enter Tryz.func74, Tryz.ntmps74
    go_wp2
    go_ret2
    exact ⟨rfl, rfl⟩
set_option maxRecDepth 100000 in
set_option maxHeartbeats 1000000 in
theorem of_len (n : Nat) (A : Option Addr) (k c : Nat) (hn : n ≤ 65534) (hne : k ≠ (n + 63) / 64) : Calls Tryz.prog 74 #[.int .i64 (n : Int), .slice A k c] w fun e w' => e = .returned (.tuple #[.pointer none, .int .i64 2]) ∧ w = w' := by
  have HW := Lib.hid (fun w => wordsOf_any n hn w)
  have h0 : ¬ (n : Int) < 0 := by omega
  have h1 : ¬ (65534 : Int) < (n : Int) := by omega
  generalize (n + 63) / 64 = K at *
  have h2 : ((k : Int) == (K : Int)) = false := by simp; omega
  have h3 : ((k : Int) != (K : Int)) = true := by simp; omega
  clear hne
  go_enter Tryz.func74, Tryz.ntmps74
  go_wp2_with (go_at_call 94; refine (HW.out _).mono ?_; rintro e w' ⟨rfl, rfl⟩)
  go_ret2
  exact ⟨rfl, rfl⟩

/-- hasBeyond of words that lie somewhere -/
theorem hasBeyond_any (n K : Nat) (A : Option Addr) (c : Nat) (l : List Nat) (h : Wds w A l) (hn : n ≤ 65534) (hK : K = (n + 63) / 64) (hl : l.length = K) (b : Bool) (hb : b = true ↔ ¬ Good n l) :
    Calls Tryz.prog 121 #[.int .i64 (n : Int), .slice A K c] w fun e w' => e = .returned (.bool b) ∧ w = w' := by
  by_cases hr : n % 64 = 0
  · have hg := good_even hK hl hr
    have : b = false := by
      cases b with
      | false => rfl
      | true => exact absurd hg (hb.1 rfl)
    rw [this]
    exact hasBeyond_even n hr hn A K c
  · have hk0 : 0 < K := by omega
    obtain ⟨bb, o, rfl, _, hc⟩ := h.at' (K - 1) (by omega)
    have hx := h.u64 _ (List.getElem_mem (l := l) (n := K - 1) (by omega))
    have := hasBeyond_odd (w := w) n (n % 64) l[K - 1] K rfl hr hn bb o c (by omega) hk0 hc
    have hgd : l.getD (K - 1) 0 = l[K - 1] := by rw [List.getD_eq_getElem?_getD, List.getElem?_eq_getElem (by omega), Option.getD_some]
    have hgl := good_last hK hl hr
    rw [hgd] at hgl
    have : b = !decide (l[K - 1] / 2 ^ (n % 64) = 0) := by
      rw [Bool.eq_iff_iff, hb, hgl]
      simp [hx]
    rw [this]
    assumption

set_option maxRecDepth 100000 in
set_option maxHeartbeats 1000000 in
theorem of_bad (n : Nat) (A : Option Addr) (c : Nat) (l : List Nat) (h : Wds w A l) (hn : n ≤ 65534) (hl : l.length = (n + 63) / 64) (hg : ¬ Good n l) : Calls Tryz.prog 74 #[.int .i64 (n : Int), .slice A l.length c] w fun e w' => e = .returned (.tuple #[.pointer none, .int .i64 2]) ∧ w = w' := by
  have HW := Lib.hid (fun w => wordsOf_any n hn w)
  have HB := Lib.hid (hasBeyond_any n _ A c l h hn rfl hl true (by simp [hg]))
  have h0 : ¬ (n : Int) < 0 := by omega
  have h1 : ¬ (65534 : Int) < (n : Int) := by omega
  rw [hl]
  have hKl : (n + 63) / 64 ≤ 2000 := by omega
  generalize (n + 63) / 64 = K at *
  clear hl h hg
  go_enter Tryz.func74, Tryz.ntmps74
  go_wp2_with (first | (go_at_call 94; refine (HW.out _).mono ?_; rintro e w' ⟨rfl, rfl⟩) | (go_at_call 121; refine HB.out.mono ?_; rintro e w' ⟨rfl, rfl⟩))
  go_ret2
  exact ⟨rfl, rfl⟩

set_option maxRecDepth 100000 in
set_option maxHeartbeats 1000000 in
theorem of_yes (n : Nat) (ad : Addr) (c : Nat) (l : List Nat) (h : Wds w (some ad) l) (hn : n ≤ 65534) (hl : l.length = (n + 63) / 64) (hg : Good n l) : Calls Tryz.prog 74 #[.int .i64 (n : Int), .slice (some ad) l.length c] w (OfR w n l) := by
  have HW := Lib.hid (fun w => wordsOf_any n hn w)
  have HB := Lib.hid (hasBeyond_any n _ (some ad) c l h hn rfl hl false (by simp [hg]))
  have HC := Lib.hid (clone_any ad c l h (by omega))
  have HG := Lib.hid (fun j hj => hg.words h.u64 j hj)
  have HL := Lib.hid hl
  have h0 : ¬ (n : Int) < 0 := by omega
  have h1 : ¬ (65534 : Int) < (n : Int) := by omega
  rw [← hl] at HB HW
  have hKl : l.length ≤ 2000 := by omega
  clear hl h hg
  go_enter Tryz.func74, Tryz.ntmps74
  go_wp2_with (first | (go_at_call 94; refine (HW.out _).mono ?_; rintro e w' ⟨rfl, rfl⟩) | (go_at_call 121; refine HB.out.mono ?_; rintro e w' ⟨rfl, rfl⟩))
  refine HC.out.mono ?_
  rintro e w1 ⟨g, gc, rfl, hgc, hgg, hrow, hbel⟩
  have hrow2 := hrow.congr (g := fun k => .int .u64 (wd (fo n l) k : Int)) (fun i hi => by
    show Value.int .u64 ((l.getD i 0 : Nat) : Int) = Value.int .u64 (wd (fo n l) i : Int)
    rw [← HG.out i hi, List.getD_eq_getElem?_getD, List.getElem?_eq_getElem hi, Option.getD_some])
  have HX := Lib.hid (show OfR w n l (.returned (.tuple #[.pointer (some ⟨w1.heap.size, 0, none⟩), .int .i64 0])) (w1.alloc (.cells #[.int .i64 (n : Int), .slice (some ⟨g, 0, none⟩) l.length gc] 160)) from
    ⟨w1.heap.size, g, gc, rfl, hbel.size, hgg, mp_box hrow2 (fo_far n l) hn HL.out hgc, hbel.alloc hbel.size _⟩)
  clear hgc hgg hrow hbel hrow2
  go_wp2
  go_ret2
  exact HX.out
end
end Bm
end Go.Proofs.YtcojgpjappjobaaGreatDoor
/- The document's map of words. -/
namespace Go.Proofs.YtcojgpjappjobaaGreatDoor
open Go.RowKit Go.MapKept
namespace Bm
open Pack (Wds Nts)

theorem bls_step (f : Nat → Bool) (t : Nat) : bls f (t + 1) = bls f t ++ [.bool (f t)] := by
  unfold bls
  rw [List.range_succ, List.map_append]
  rfl
theorem own_bls {W : World} {B n c q : Nat} {G : Option Addr} {f : Nat → Bool} (h : W.ownsRow B 4 1 (.slice G n c) n (bls f n)) (hq : q < B) : Bls W q G n f :=
  ⟨fun j hj => by
    rcases h.2 with ⟨e, h0⟩ | ⟨g, cap, cur, e, hg, hh, _, _, _, ht⟩
    · omega
    · injection e with e
      subst e
      refine ⟨g, 0, rfl, (Array.getElem?_eq_some_iff.1 hh).1, by omega, ?_⟩
      have := congrArg (·[j]?) ht
      simp only [Nat.mul_one] at this
      rw [List.getElem?_take, if_pos hj, bls_get f n j hj] at this
      unfold World.cell?
      rw [hh, Nat.zero_add]
      simp only
      rw [← Array.getElem?_toList]
      exact this⟩

/-- what the document's Of answers of words of the right count -/
def RefR (w : World) (q n : Nat) (l : List Nat) (e : Ending) (w' : World) : Prop :=
  (Good n l ∧ ∃ (A : Option Addr) (c : Nat), e = .returned (.tuple #[.slice A n c, .bool true]) ∧ Bls w' q A n (fo n l) ∧ Below w.heap.size w w') ∨
  (¬ Good n l ∧ e = .returned (.tuple #[.slice none 0 0, .bool false]) ∧ Below w.heap.size w w')

section
variable {w : World}
set_option maxRecDepth 100000 in
set_option maxHeartbeats 1000000 in
theorem refOf_far (n : Int) (A : Option Addr) (k c : Nat) (hn : n < 0 ∨ 65534 < n) : Calls Tryz.prog 75 #[.int .i64 n, .slice A k c] w fun e w' => e = .returned (.tuple #[.slice none 0 0, .bool false]) ∧ w = w' := by
  by_cases h0 : n < 0
  · clear hn
    go_enter Tryz.func75, Tryz.ntmps75
    go_wp2
    go_ret2
    exact ⟨rfl, rfl⟩
  · have h1 : 65534 < n := by omega
    clear hn
    go_enter Tryz.func75, Tryz.ntmps75
    go_wp2
    go_ret2
    exact ⟨rfl, rfl⟩
set_option maxRecDepth 100000 in
set_option maxHeartbeats 1000000 in
theorem refOf_len (n : Nat) (A : Option Addr) (k c : Nat) (hn : n ≤ 65534) (hne : k ≠ (n + 63) / 64) : Calls Tryz.prog 75 #[.int .i64 (n : Int), .slice A k c] w fun e w' => e = .returned (.tuple #[.slice none 0 0, .bool false]) ∧ w = w' := by
  have h0 : ¬ (n : Int) < 0 := by omega
  have h1 : ¬ (65534 : Int) < (n : Int) := by omega
  obtain ⟨K, hK⟩ : ∃ K, K = (n + 63) / 64 := ⟨_, rfl⟩
  have hq : ((n : Int) + 63) / 64 = (K : Int) := by omega
  have h2 : ((k : Int) == (K : Int)) = false := by simp; omega
  have h3 : ((k : Int) != (K : Int)) = true := by simp; omega
  clear hne hK
  go_enter Tryz.func75, Tryz.ntmps75
  go_wp2
  go_ret2
  exact ⟨rfl, rfl⟩

theorem bit_and (x r : Nat) (hx : x < 18446744073709551616) : bits BinOp.and IntKind.u64 ((x : Int) / 2 ^ r) 1 = ((if x.testBit r then 1 else 0 : Nat) : Int) := by
  rw [show (x : Int) / 2 ^ r = ((x / 2 ^ r : Nat) : Int) by simp]
  have hl : x / 2 ^ r < 18446744073709551616 := Nat.lt_of_le_of_lt (Nat.div_le_self _ _) hx
  have := u64_and_nat (x / 2 ^ r) 1 hl (by decide)
  rw [show (1 : Int) = ((1 : Nat) : Int) from rfl, this, nat_mask1, Nat.testBit_eq_decide_div_mod_eq]
  have h2 : x / 2 ^ r % 2 = 0 ∨ x / 2 ^ r % 2 = 1 := by omega
  rcases h2 with h | h <;> simp [h]

set_option maxRecDepth 100000 in
set_option maxHeartbeats 3000000 in
theorem refOf_any (q n : Nat) (A : Option Addr) (c : Nat) (l : List Nat) (h : Wds w A l) (hn : n ≤ 65534) (hl : l.length = (n + 63) / 64) (hq : q < w.heap.size) : Calls Tryz.prog 75 #[.int .i64 (n : Int), .slice A l.length c] w (RefR w q n l) := by
  have h0 : ¬ (n : Int) < 0 := by omega
  have h1 : ¬ (65534 : Int) < (n : Int) := by omega
  obtain ⟨K, hK⟩ : ∃ K, K = (n + 63) / 64 := ⟨_, rfl⟩
  have hqq : ((n : Int) + 63) / 64 = (K : Int) := by omega
  have hk1 : n ≤ 64 * K := by omega
  have hk2 : K ≤ 1024 := by omega
  rw [← hK] at hl
  have H := Lib.hid h
  have HL := Lib.hid hl
  rw [hl]
  clear h hl hK
  obtain ⟨i0, hi0, hz0, hz1, hz2⟩ := info_parts bool_info
  go_enter Tryz.func75, Tryz.ntmps75
  go_wp2_with fail
  clear hqq
  go_loopw [6, 26] (fun a i wr => ∃ (k t : Nat) (G : Option Addr) (gc : Nat), k ≤ 64 * K ∧ t = min k n ∧ i = .int .i64 (k : Int) ∧ a = .slice G t gc ∧ wr.ownsRow w.heap.size 4 1 (.slice G t gc) t (bls (fo n l) t) ∧ (∀ j, n ≤ j → j < k → bitAt l j = false) ∧ Below w.heap.size w wr) (fun _ i _ => 64 * K - (intOf i).toNat)
  case atStart => exact ⟨0, 0, none, 0, Nat.zero_le _, by omega, rfl, rfl, World.ownsRow_nil _ _ _ _, fun j _ h => by omega, Below.refl _ _⟩
  case round =>
    obtain ⟨k, t, G, gc, hk, ht, rfl, rfl, hown, hpre, hbel⟩ := hrel
    have HP := Lib.hid hpre
    have HLL := Lib.hid HL.out
    clear hpre
    by_cases hlt : k < 64 * K
    · have hd : k / 64 < l.length := by rw [HLL.out]; omega
      obtain ⟨b, o, rfl, hb, hcell0⟩ := H.out.at' (k / 64) hd
      have hcell := (hbel.cell (p := ⟨b, o + k / 64, none⟩) hb).trans hcell0
      have hx := H.out.u64 _ (List.getElem_mem hd)
      have hba : bitAt l k = l[k / 64].testBit (k % 64) := by
        unfold bitAt
        rw [List.getD_eq_getElem?_getD, List.getElem?_eq_getElem hd, Option.getD_some]
      have hand := bit_and l[k / 64] (k % 64) hx
      rw [← hba] at hand
      have hdK : k / 64 < K := by omega
      have he : (k : Int) / 64 = ((k / 64 : Nat) : Int) := rfl
      have hm : (k : Int) % 64 = ((k % 64 : Nat) : Int) := rfl
      have hr64 : k % 64 < 64 := by omega
      have HF := Lib.hid (show k < n → fo n l k = bitAt l k from fun hkn => by unfold fo; rw [decide_eq_true hkn]; rfl)
      clear hcell0 hba
      generalize l[k / 64] = x at *
      clear hx hd
      generalize k % 64 = r at *
      generalize k / 64 = d at *
      have hi0' : (0 : Int) ≤ (d : Int) := by omega
      have hi1 : (d : Int) < (K : Int) := by omega
      have hr0 : (0 : Int) ≤ (r : Int) := by omega
      have hr1 : (r : Int) < 64 := by omega
      have hlt2 : (k : Int) < 64 * (K : Int) := by omega
      by_cases hkn : k < n
      · have hge : ¬ (n : Int) ≤ (k : Int) := by omega
        have htk : t = k := by omega
        subst htk
        have HB := Lib.hid (bls_step (fo n l) t)
        rw [HF.out hkn] at HB
        have HX := Lib.hid (hown.alloc (.cells #[.bool (bitAt l t)] 4))
        have HBX := Lib.hid (hbel.alloc hbel.size (.cells #[.bool (bitAt l t)] 4))
        have hsz := hbel.size
        clear hown hbel HF ht
        generalize bitAt l t = v at *
        cases v with
        | true =>
          simp only [if_true] at hand
          have hand2 : bits BinOp.and IntKind.u64 ((x : Int) / 2 ^ r) 1 = 1 := hand
          clear hand
          go_wp2_with (at_builtin
                       refine wpList_append_own_at _ rfl (.tmp 43) (.tmp 45) 66 rfl w.heap.size 4 i0 (.bool false) 1 1 Tryz.underlying66 hi0 hz0 hz1 hz2 rfl (by decide) (.slice G t gc) t (bls (fo n l) t) rfl HX.out ⟨wr.heap.size, 0, none⟩ 1 1 [.bool true] rfl rfl (cell_one_new _ _ _) (by simp [Value.oneCell']) (by unfold maxLen; omega) (by omega) (by simp; omega) ?_
                       intro v' w3 hown3 hgr3 _ hat3
                       obtain ⟨G', gc', rfl⟩ := Pack.row_slice hown3
                       have HO := Lib.hid hown3
                       have HB3 := Lib.hid (HBX.out.grown hgr3 (by simp; omega) (fun k hk => Pack.row_base_lt HX.out hk))
                       clear hown3 hgr3 hat3)
          refine ⟨⟨t + 1, t + 1, G', gc', by omega, by omega, by go_num, rfl, by rw [HB.out]; exact HO.out, fun j h1 h2 => by omega, HB3.out⟩, by simp [intOf]; omega⟩
        | false =>
          simp only [Bool.false_eq_true, if_false] at hand
          have hand2 : bits BinOp.and IntKind.u64 ((x : Int) / 2 ^ r) 1 = 0 := hand
          clear hand
          go_wp2_with (at_builtin
                       refine wpList_append_own_at _ rfl (.tmp 43) (.tmp 45) 66 rfl w.heap.size 4 i0 (.bool false) 1 1 Tryz.underlying66 hi0 hz0 hz1 hz2 rfl (by decide) (.slice G t gc) t (bls (fo n l) t) rfl HX.out ⟨wr.heap.size, 0, none⟩ 1 1 [.bool false] rfl rfl (cell_one_new _ _ _) (by simp [Value.oneCell']) (by unfold maxLen; omega) (by omega) (by simp; omega) ?_
                       intro v' w3 hown3 hgr3 _ hat3
                       obtain ⟨G', gc', rfl⟩ := Pack.row_slice hown3
                       have HO := Lib.hid hown3
                       have HB3 := Lib.hid (HBX.out.grown hgr3 (by simp; omega) (fun k hk => Pack.row_base_lt HX.out hk))
                       clear hown3 hgr3 hat3)
          refine ⟨⟨t + 1, t + 1, G', gc', by omega, by omega, by go_num, rfl, by rw [HB.out]; exact HO.out, fun j h1 h2 => by omega, HB3.out⟩, by simp [intOf]; omega⟩
      · have hge : (n : Int) ≤ (k : Int) := by omega
        have htk : t = n := by omega
        subst htk
        have HO := Lib.hid hown
        have HBW := Lib.hid hbel
        clear hown hbel HF ht
        cases hv : bitAt l k with
        | true =>
          rw [hv] at hand
          simp only [if_true] at hand
          have hand2 : bits BinOp.and IntKind.u64 ((x : Int) / 2 ^ r) 1 = 1 := hand
          have HX := Lib.hid (show RefR w q t l (.returned (.tuple #[.slice none 0 0, .bool false])) wr from .inr ⟨(fun hg => by
            have := hg k (by omega) (by rw [HLL.out]; exact hlt)
            rw [hv] at this
            cases this), rfl, HBW.out⟩)
          clear hand hv
          go_wp2
          go_ret2
          exact HX.out
        | false =>
          rw [hv] at hand
          simp only [Bool.false_eq_true, if_false] at hand
          have hand2 : bits BinOp.and IntKind.u64 ((x : Int) / 2 ^ r) 1 = 0 := hand
          have HN := Lib.hid (fun j (h1 : t ≤ j) (h2 : j < k + 1) => show bitAt l j = false by
            by_cases e : j = k
            · subst e; exact hv
            · exact HP.out j h1 (by omega))
          clear hand hv
          go_wp2
          refine ⟨⟨k + 1, t, G, gc, by omega, by omega, by go_num, rfl, HO.out, HN.out, HBW.out⟩, by simp [intOf]; omega⟩
    · obtain rfl : t = n := by omega
      have HX := Lib.hid (show RefR w q t l (.returned (.tuple #[.slice G t gc, .bool true])) wr from .inl ⟨fun i h1 h2 => HP.out i h1 (by rw [HLL.out] at h2; omega), G, gc, rfl, own_bls hown hq, hbel⟩)
      have hlt2 : ¬ (k : Int) < 64 * (K : Int) := by omega
      clear hown hbel ht
      go_wp2
      go_ret2
      exact HX.out
end
end Bm
end Go.Proofs.YtcojgpjappjobaaGreatDoor
/- Where the parts of a geometry stand, as numbers. -/
namespace Go.Proofs.YtcojgpjappjobaaGreatDoor
namespace Geo

/-- a block's bytes that may be -/
def Sz (s : Int) : Prop := s = 64 ∨ s = 128 ∨ s = 256 ∨ s = 512 ∨ s = 1024 ∨ s = 2048 ∨ s = 4096
instance (s : Int) : Decidable (Sz s) := by unfold Sz; infer_instance
/-- numbers that may be -/
def Num (n m s : Int) : Prop := (1 ≤ n ∧ n ≤ 65534) ∧ (1 ≤ m ∧ m ≤ 65534) ∧ Sz s
instance (n m s : Int) : Decidable (Num n m s) := by unfold Num; infer_instance
/-- so many words, and those that fill the line -/
def lines (c : Int) : Int := (c + 7) / 8 * 8
/-- where the bitmap begins -/
def bmAt (n m : Int) : Int := 16 + m * 8 + lines n
/-- where the blocks begin -/
def bkAt (n m : Int) : Int := bmAt n m + lines ((n + 63) / 64)
/-- where they end -/
def fin (n m s : Int) : Int := bkAt n m + n * (s / 8)
/-- whether it may be -/
def may (n m s : Int) : Bool := decide (Num n m s ∧ fin n m s ≤ 4194304)
/-- how many parts of a length hold so many -/
def prt (c e : Int) : Int := c / e + if c % e = 0 then 0 else 1

theorem prt8 (c : Int) : prt c 8 * 8 = lines c := by
  unfold prt lines
  split <;> omega
theorem prt64 (c : Int) : prt c 64 = (c + 63) / 64 := by
  unfold prt
  split <;> omega
theorem Sz.bounds {s : Int} (h : Sz s) : 64 ≤ s ∧ s ≤ 4096 ∧ 8 ≤ s / 8 ∧ s / 8 ≤ 512 ∧ s / 8 * 8 = s := by
  rcases h with rfl | rfl | rfl | rfl | rfl | rfl | rfl <;> decide
theorem bm_bounds {n m : Int} (h1 : 1 ≤ n ∧ n ≤ 65534) (h2 : 1 ≤ m ∧ m ≤ 65534) : 16 + m * 8 + n ≤ bmAt n m ∧ bmAt n m ≤ 16 + m * 8 + n + 7 ∧ bmAt n m ≤ 600000 ∧ bmAt n m % 8 = 0 := by
  unfold bmAt lines
  omega
theorem bk_bounds {n m : Int} (h1 : 1 ≤ n ∧ n ≤ 65534) (h2 : 1 ≤ m ∧ m ≤ 65534) : bmAt n m + (n + 63) / 64 ≤ bkAt n m ∧ bkAt n m ≤ bmAt n m + (n + 63) / 64 + 7 ∧ bkAt n m ≤ 610000 ∧ bkAt n m % 8 = 0 ∧ 0 ≤ bkAt n m := by
  have := bm_bounds h1 h2
  unfold bkAt lines
  omega
theorem mul_bounds {i q a b : Int} (h1 : 0 ≤ i) (h2 : i ≤ a) (h3 : 0 ≤ q) (h4 : q ≤ b) : 0 ≤ i * q ∧ i * q ≤ a * b :=
  ⟨Int.mul_nonneg h1 h3, Int.mul_le_mul h2 h4 h3 (Int.le_trans h1 h2)⟩
theorem fin_bounds {n m s : Int} (h1 : 1 ≤ n ∧ n ≤ 65534) (h2 : 1 ≤ m ∧ m ≤ 65534) (h3 : Sz s) : 0 ≤ fin n m s ∧ fin n m s ≤ 40000000 ∧ 0 ≤ n * (s / 8) ∧ n * (s / 8) ≤ 33553408 := by
  have hs := h3.bounds
  have h4 := mul_bounds (i := n) (a := 65534) (q := s / 8) (b := 512) (by omega) (by omega) (by omega) (by omega)
  have h5 := bk_bounds h1 h2
  unfold fin
  omega
theorem may_num {n m s : Int} (h : may n m s = true) : Num n m s ∧ fin n m s ≤ 4194304 := of_decide_eq_true h
theorem may_yes {n m s : Int} (h : Num n m s ∧ fin n m s ≤ 4194304) : may n m s = true := decide_eq_true h
theorem may_no {n m s : Int} (h : ¬ (Num n m s ∧ fin n m s ≤ 4194304)) : may n m s = false := decide_eq_false h
theorem may_neg {n m s : Int} (h : may n m s = false) : ¬ (Num n m s ∧ fin n m s ≤ 4194304) := of_decide_eq_false h

theorem prt_bounds {c e : Int} (h : 0 ≤ c) (he : 0 < e) : 0 ≤ c / e ∧ c / e ≤ c := ⟨Int.ediv_nonneg h (by omega), Int.ediv_le_self _ h⟩

theorem and_size' : ∀ (a : Fin 65) (b : Fin 64), (Nat.land (64 * a.val + b.val) (64 * a.val + b.val - 1) = 0 ↔ 64 * a.val + b.val < 64 ∧ Nat.land b.val (b.val - 1) = 0 ∨ (64 * a.val + b.val = 64 ∨ 64 * a.val + b.val = 128 ∨ 64 * a.val + b.val = 256 ∨ 64 * a.val + b.val = 512 ∨ 64 * a.val + b.val = 1024 ∨ 64 * a.val + b.val = 2048 ∨ 64 * a.val + b.val = 4096)) := by decide +kernel
end Geo
end Go.Proofs.YtcojgpjappjobaaGreatDoor
/- The program's small steps: a number within bounds, a block's bytes that may be, parts and lines. -/
namespace Go.Proofs.YtcojgpjappjobaaGreatDoor
open Go.RowKit Go.MapKept
namespace Geo

/-- a number that an int holds -/
def I64 (n : Int) : Prop := -9223372036854775808 ≤ n ∧ n ≤ 9223372036854775807

theorem within_any (w : World) (n a b : Int) :
    Calls Tryz.prog 156 #[.int .i64 n, .int .i64 a, .int .i64 b] w fun e w' => e = .returned (.bool (decide (a ≤ n ∧ n ≤ b))) ∧ w = w' := by
  go_enter Tryz.func156, Tryz.ntmps156
  go_wp2
  · rename_i h
    go_ret
    exact ⟨by simp [h], rfl⟩
  · rename_i h
    go_ret
    refine ⟨?_, rfl⟩
    have : ¬ a ≤ n := by omega
    simp [this]

theorem size_bits (s : Int) (h1 : 64 ≤ s) (h2 : s ≤ 4096) : (bits .and .i64 s (s - 1) = 0) ↔ Sz s := by
  obtain ⟨k, rfl⟩ := Int.eq_ofNat_of_zero_le (show 0 ≤ s by omega)
  have hk : k < 4097 := by omega
  have e1 : (BitVec.ofInt 64 (k : Int)).toNat = k := by rw [BitVec.ofInt_natCast, BitVec.toNat_ofNat]; exact Nat.mod_eq_of_lt (by omega)
  have e2 : (BitVec.ofInt 64 ((k : Int) - 1)).toNat = k - 1 := by
    have : ((k : Int) - 1) = ((k - 1 : Nat) : Int) := by omega
    rw [this, BitVec.ofInt_natCast, BitVec.toNat_ofNat]; exact Nat.mod_eq_of_lt (by omega)
  have e : bits .and .i64 (k : Int) ((k : Int) - 1) = ((Nat.land k (k - 1) : Nat) : Int) := by
    show IntKind.i64.wrap ((BitVec.ofInt 64 (k : Int) &&& BitVec.ofInt 64 ((k : Int) - 1)).toNat : Int) = _
    rw [BitVec.toNat_and, e1, e2]
    have hl : k &&& (k - 1) ≤ k := Nat.and_le_left
    have hl' : Nat.land k (k - 1) = k &&& (k - 1) := rfl
    rw [hl', IntKind.wrap_i64]
    omega
  rw [e]
  have ha := and_size' ⟨k / 64, by omega⟩ ⟨k % 64, by omega⟩
  have hq : 64 * (k / 64) + k % 64 = k := by omega
  simp only [hq] at ha
  unfold Sz
  constructor
  · intro h
    have h' : Nat.land k (k - 1) = 0 := by omega
    rcases ha.1 h' with h | h
    · omega
    · omega
  · intro h
    have := ha.2 (.inr (by omega))
    omega

theorem size_any (w : World) (s : Int) :
    Calls Tryz.prog 157 #[.int .i64 s] w fun e w' => e = .returned (.bool (decide (Sz s))) ∧ w = w' := by
  have HW := Lib.hid (within_any w s 64 4096)
  by_cases h : 64 ≤ s ∧ s ≤ 4096
  · obtain ⟨h1, h2⟩ := h
    have HS := Lib.hid (size_bits s h1 h2)
    go_enter Tryz.func157, Tryz.ntmps157
    go_wp2_with fail
    refine HW.out.mono ?_
    rintro e w' ⟨rfl, rfl⟩
    rw [decide_eq_true (show 64 ≤ s ∧ s ≤ 4096 from ⟨h1, h2⟩)]
    go_wp2
    go_ret
    refine ⟨?_, rfl⟩
    have := HS.out
    by_cases hz : Sz s
    · rw [decide_eq_true hz, this.2 hz]; rfl
    · rw [decide_eq_false hz]
      have h0 : ¬ bits .and .i64 s (s - 1) = 0 := fun h => hz (this.1 h)
      simp [h0]
  · have hn : ¬ Sz s := fun h' => h ⟨h'.bounds.1, h'.bounds.2.1⟩
    go_enter Tryz.func157, Tryz.ntmps157
    go_wp2_with fail
    refine HW.out.mono ?_
    rintro e w' ⟨rfl, rfl⟩
    rw [decide_eq_false h]
    go_wp2
    go_ret
    exact ⟨by rw [decide_eq_false hn]; rfl, rfl⟩

/-- parts of what there is -/
theorem parts_any (w : World) (c e : Int) (h0 : 0 ≤ c) (h1 : c ≤ 9223372036854775807) (he2 : 2 ≤ e) :
    Calls Tryz.prog 159 #[.int .i64 c, .int .i64 e] w fun r w' => r = .returned (.int .i64 (prt c e)) ∧ w = w' := by
  have hq := prt_bounds h0 (show 0 < e by omega)
  have hq2 : c / e ≤ 4611686018427387903 := by
    have h2 : c / e * e ≤ c := Int.ediv_mul_le c (by omega)
    have h3 : c / e * 2 ≤ c / e * e := Int.mul_le_mul_of_nonneg_left he2 hq.1
    omega
  by_cases hz : c % e = 0
  · go_enter Tryz.func159, Tryz.ntmps159
    go_wp2
    go_ret
    exact ⟨by unfold prt; rw [if_pos hz]; simp, rfl⟩
  · go_enter Tryz.func159, Tryz.ntmps159
    go_wp2
    go_ret
    exact ⟨by unfold prt; rw [if_neg hz]; rfl, rfl⟩

/-- parts of whatever number -/
theorem parts_some (w : World) (c e : Int) (h : I64 c) (he : e = 8 ∨ e = 64) :
    Calls Tryz.prog 159 #[.int .i64 c, .int .i64 e] w fun r w' => (∃ v, r = .returned (.int .i64 v) ∧ I64 v) ∧ w = w' := by
  obtain ⟨h1, h2⟩ := h
  by_cases h0 : 0 ≤ c
  · refine (parts_any w c e h0 h2 (by omega)).mono ?_
    rintro r w' ⟨rfl, rfl⟩
    refine ⟨⟨_, rfl, ?_⟩, rfl⟩
    unfold I64 prt
    rcases he with rfl | rfl <;> (split <;> omega)
  · have hd : -9223372036854775808 ≤ c.tdiv e ∧ c.tdiv e ≤ 0 := by
      obtain ⟨k, rfl⟩ : ∃ k : Nat, c = -(k : Int) := ⟨(-c).toNat, by omega⟩
      rw [Int.neg_tdiv]
      rcases he with rfl | rfl
      · have : ((k : Int)).tdiv 8 = (k : Int) / 8 := Int.tdiv_eq_ediv_of_nonneg (by omega)
        omega
      · have : ((k : Int)).tdiv 64 = (k : Int) / 64 := Int.tdiv_eq_ediv_of_nonneg (by omega)
        omega
    have he1 : 1 ≤ e := by omega
    have he2 : ¬ e = 0 := by omega
    clear he
    go_enter Tryz.func159, Tryz.ntmps159
    go_wp2
    · go_ret
      exact ⟨⟨_, rfl, by unfold I64; omega⟩, rfl⟩
    · go_ret
      exact ⟨⟨_, rfl, by unfold I64; omega⟩, rfl⟩

theorem filled_any (w : World) (c : Int) (h0 : 0 ≤ c) (h1 : c ≤ 1000000) :
    Calls Tryz.prog 155 #[.int .i64 c] w fun r w' => r = .returned (.int .i64 (lines c)) ∧ w = w' := by
  have HP := Lib.hid (parts_any w c 8 h0 (by omega) (by omega))
  have HE := Lib.hid (prt8 c)
  have hb : 0 ≤ prt c 8 ∧ prt c 8 ≤ 1000000 := by unfold prt; split <;> omega
  go_enter Tryz.func155, Tryz.ntmps155
  go_wp2_with fail
  refine HP.out.mono ?_
  rintro e w' ⟨rfl, rfl⟩
  go_wp2
  go_ret
  exact ⟨by rw [← HE.out]; rfl, rfl⟩

theorem i64_wrap (x : Int) : I64 (IntKind.i64.wrap x) := by
  unfold I64
  rw [IntKind.wrap_i64]
  omega

theorem filled_some (w : World) (c : Int) (h : I64 c) :
    Calls Tryz.prog 155 #[.int .i64 c] w fun r w' => (∃ v, r = .returned (.int .i64 v) ∧ I64 v) ∧ w = w' := by
  have HP := Lib.hid (parts_some w c 8 h (.inl rfl))
  go_enter Tryz.func155, Tryz.ntmps155
  go_wp2_with fail
  refine HP.out.mono ?_
  rintro e w' ⟨⟨v, rfl, hv⟩, rfl⟩
  go_wp2
  go_ret
  exact ⟨⟨_, rfl, by unfold I64 wrap64; omega⟩, rfl⟩
end Geo
end Go.Proofs.YtcojgpjappjobaaGreatDoor
/- Where the parts begin, and where the last one ends. -/
namespace Go.Proofs.YtcojgpjappjobaaGreatDoor
open Go.RowKit Go.MapKept
namespace Geo

theorem blockWords_any (w : World) (n m s : Int) (h : 0 ≤ s) (h2 : s ≤ 9223372036854775807) :
    Calls Tryz.prog 117 #[.agg #[.int .i64 n, .int .i64 m, .int .i64 s]] w fun r w' => r = .returned (.int .i64 (s / 8)) ∧ Below w.heap.size w w' := by
  go_enter Tryz.func117, Tryz.ntmps117
  go_wp2
  go_ret
  exact ⟨rfl, (Below.refl _ _).alloc (Nat.le_refl _) _⟩

theorem bitWords_any (w : World) (n m s : Int) (h : 0 ≤ n) (h2 : n ≤ 9223372036854775807) :
    Calls Tryz.prog 120 #[.agg #[.int .i64 n, .int .i64 m, .int .i64 s]] w fun r w' => r = .returned (.int .i64 ((n + 63) / 64)) ∧ Below w.heap.size w w' := by
  have HE := Lib.hid (prt64 n)
  go_enter Tryz.func120, Tryz.ntmps120
  go_wp2_with (go_at_call 159; refine (parts_any _ _ _ h h2 (by decide)).mono ?_; rintro e w' ⟨rfl, rfl⟩)
  go_ret
  exact ⟨by rw [← HE.out]; rfl, (Below.refl _ _).alloc (Nat.le_refl _) _⟩

theorem slotsAt_any (w : World) (n m s : Int) (h : 0 ≤ m) (h2 : m ≤ 1000000) :
    Calls Tryz.prog 113 #[.agg #[.int .i64 n, .int .i64 m, .int .i64 s]] w fun r w' => r = .returned (.int .i64 (16 + m * 8)) ∧ Below w.heap.size w w' := by
  go_enter Tryz.func113, Tryz.ntmps113
  go_wp2
  go_ret
  exact ⟨rfl, (Below.refl _ _).alloc (Nat.le_refl _) _⟩

/-- a geometry lies in block b -/
structure Box (w : World) (b : Nat) (n m s : Int) : Prop where
  lt : b < w.heap.size
  c0 : w.cell? ⟨b, 0, none⟩ = some (.int .i64 n)
  c1 : w.cell? ⟨b, 1, none⟩ = some (.int .i64 m)
  c2 : w.cell? ⟨b, 2, none⟩ = some (.int .i64 s)
theorem Box.keep {w w' : World} {b : Nat} {n m s : Int} (h : Box w b n m s) (hb : Below w.heap.size w w') : Box w' b n m s :=
  ⟨Nat.lt_of_lt_of_le h.lt hb.size, (hb.cell (p := ⟨b, 0, none⟩) h.lt).trans h.c0, (hb.cell (p := ⟨b, 1, none⟩) h.lt).trans h.c1, (hb.cell (p := ⟨b, 2, none⟩) h.lt).trans h.c2⟩
theorem Box.drew {w : World} {b : Nat} {n m s : Int} (h : Box w b n m s) : Box w.drew b n m s := ⟨h.lt, h.c0, h.c1, h.c2⟩
theorem boxed (w : World) (n m s : Int) (t : TypeId) : Box (w.alloc (.cells #[.int .i64 n, .int .i64 m, .int .i64 s] t)) w.heap.size n m s :=
  ⟨by simp, World.cell?_alloc_mark w _ t _ 0, World.cell?_alloc_mark w _ t _ 1, World.cell?_alloc_mark w _ t _ 2⟩

set_option maxHeartbeats 1000000 in
theorem bitmapAt_any (w : World) (n m s : Int) (h1 : 1 ≤ n ∧ n ≤ 65534) (h2 : 1 ≤ m ∧ m ≤ 65534) :
    Calls Tryz.prog 119 #[.agg #[.int .i64 n, .int .i64 m, .int .i64 s]] w fun r w' => r = .returned (.int .i64 (bmAt n m)) ∧ Below w.heap.size w w' := by
  have hl : 0 ≤ lines n ∧ lines n ≤ 70000 := by unfold lines; omega
  have HS := Lib.hid (fun w => slotsAt_any w n m s (by omega) (by omega))
  have HF := Lib.hid (fun w => filled_any w n (by omega) (by omega))
  have HW := Lib.hid (show IntKind.i64.wrap (16 + m * 8 + lines n) = bmAt n m from IntWalk.i64_in _ (by omega))
  have HX := Lib.hid (boxed w n m s 34)
  have HB := Lib.hid ((Below.refl w.heap.size w).alloc (Nat.le_refl _) (.cells #[.int .i64 n, .int .i64 m, .int .i64 s] 34))
  go_enter Tryz.func119, Tryz.ntmps119
  go_wp2
  generalize w.alloc (.cells #[.int .i64 n, .int .i64 m, .int .i64 s] 34) = W at *
  have hc0 := HX.out.c0
  have hc1 := HX.out.c1
  have hc2 := HX.out.c2
  go_region_held3 (fun W' => W'.cell? ⟨w.heap.size, 0, none⟩ = some (.int .i64 n) ∧ W'.cell? ⟨w.heap.size, 1, none⟩ = some (.int .i64 m) ∧ W'.cell? ⟨w.heap.size, 2, none⟩ = some (.int .i64 s)) (go_keep)
    (first
    | (go_at_call 113
       with_reducible refine (HS.out _).mono ?_
       rintro e w1 ⟨rfl, hb⟩
       have HY := Lib.hid (HX.out.drew.keep hb)
       have hk0 := HY.out.c0
       have hk1 := HY.out.c1
       have hk2 := HY.out.c2
       have HB1 := Lib.hid (HB.out.drew.trans (hb.mono HB.out.drew.size))
       clear hb)
    | (go_at_call 155
       with_reducible refine (HF.out _).mono ?_
       rintro e w1 ⟨rfl, rfl⟩))
  go_wp2
  go_ret
  exact ⟨congrArg (fun x => Ending.returned (.int .i64 x)) HW.out, HB1.out⟩

set_option maxHeartbeats 1000000 in
theorem blocksAt_any (w : World) (n m s : Int) (h1 : 1 ≤ n ∧ n ≤ 65534) (h2 : 1 ≤ m ∧ m ≤ 65534) :
    Calls Tryz.prog 116 #[.agg #[.int .i64 n, .int .i64 m, .int .i64 s]] w fun r w' => r = .returned (.int .i64 (bkAt n m)) ∧ Below w.heap.size w w' := by
  have hbm := bm_bounds h1 h2
  have hl : 0 ≤ lines ((n + 63) / 64) ∧ lines ((n + 63) / 64) ≤ 70000 := by unfold lines; omega
  have HS := Lib.hid (fun w => bitmapAt_any w n m s h1 h2)
  have HN := Lib.hid (fun w => bitWords_any w n m s (by omega) (by omega))
  have HF := Lib.hid (fun w => filled_any w ((n + 63) / 64) (by omega) (by omega))
  have HW := Lib.hid (show IntKind.i64.wrap (bmAt n m + lines ((n + 63) / 64)) = bkAt n m from IntWalk.i64_in _ (by omega))
  have HX := Lib.hid (boxed w n m s 34)
  have HB := Lib.hid ((Below.refl w.heap.size w).alloc (Nat.le_refl _) (.cells #[.int .i64 n, .int .i64 m, .int .i64 s] 34))
  clear hbm
  go_enter Tryz.func116, Tryz.ntmps116
  go_wp2
  generalize w.alloc (.cells #[.int .i64 n, .int .i64 m, .int .i64 s] 34) = W at *
  have hc0 := HX.out.c0
  have hc1 := HX.out.c1
  have hc2 := HX.out.c2
  go_region_held3 (fun W' => W'.cell? ⟨w.heap.size, 0, none⟩ = some (.int .i64 n) ∧ W'.cell? ⟨w.heap.size, 1, none⟩ = some (.int .i64 m) ∧ W'.cell? ⟨w.heap.size, 2, none⟩ = some (.int .i64 s)) (go_keep)
    (first
    | (go_at_call 119
       with_reducible refine (HS.out _).mono ?_
       rintro e w1 ⟨rfl, hb⟩
       have HY := Lib.hid (HX.out.drew.keep hb)
       have hk0 := HY.out.c0
       have hk1 := HY.out.c1
       have hk2 := HY.out.c2
       have HB1 := Lib.hid (HB.out.drew.trans (hb.mono HB.out.drew.size))
       clear hb)
    | (go_at_call 120
       with_reducible refine (HN.out _).mono ?_
       rintro e w2 ⟨rfl, hb⟩
       have HZ := Lib.hid (HY.out.keep hb)
       have hl0 := HZ.out.c0
       have hl1 := HZ.out.c1
       have hl2 := HZ.out.c2
       have HB2 := Lib.hid (HB1.out.trans (hb.mono HB1.out.size))
       clear hb)
    | (go_at_call 155
       with_reducible refine (HF.out _).mono ?_
       rintro e w3 ⟨rfl, rfl⟩))
  go_wp2
  go_ret
  exact ⟨congrArg (fun x => Ending.returned (.int .i64 x)) HW.out, HB2.out⟩

set_option maxHeartbeats 1000000 in
theorem end_any (w : World) (n m s : Int) (h1 : 1 ≤ n ∧ n ≤ 65534) (h2 : 1 ≤ m ∧ m ≤ 65534) (h3 : Sz s) :
    Calls Tryz.prog 158 #[.agg #[.int .i64 n, .int .i64 m, .int .i64 s]] w fun r w' => r = .returned (.int .i64 (fin n m s)) ∧ Below w.heap.size w w' := by
  have hbk := bk_bounds h1 h2
  have hs := h3.bounds
  have hf := fin_bounds h1 h2 h3
  have HS := Lib.hid (fun w => blocksAt_any w n m s h1 h2)
  have HN := Lib.hid (fun w => blockWords_any w n m s (by omega) (by omega))
  have HW := Lib.hid (show IntKind.i64.wrap (bkAt n m + IntKind.i64.wrap (n * (s / 8))) = fin n m s by
    rw [IntWalk.i64_in (n * (s / 8)) (by omega)]
    exact IntWalk.i64_in _ (by have : fin n m s = bkAt n m + n * (s / 8) := rfl; omega))
  have HX := Lib.hid (boxed w n m s 34)
  have HB := Lib.hid ((Below.refl w.heap.size w).alloc (Nat.le_refl _) (.cells #[.int .i64 n, .int .i64 m, .int .i64 s] 34))
  clear hbk hs hf h3
  go_enter Tryz.func158, Tryz.ntmps158
  go_wp2
  generalize w.alloc (.cells #[.int .i64 n, .int .i64 m, .int .i64 s] 34) = W at *
  have hc0 := HX.out.c0
  have hc1 := HX.out.c1
  have hc2 := HX.out.c2
  go_region_held3 (fun W' => W'.cell? ⟨w.heap.size, 0, none⟩ = some (.int .i64 n) ∧ W'.cell? ⟨w.heap.size, 1, none⟩ = some (.int .i64 m) ∧ W'.cell? ⟨w.heap.size, 2, none⟩ = some (.int .i64 s)) (go_keep)
    (first
    | (go_at_call 116
       with_reducible refine (HS.out _).mono ?_
       rintro e w1 ⟨rfl, hb⟩
       have HY := Lib.hid (HX.out.drew.keep hb)
       have hk0 := HY.out.c0
       have hk1 := HY.out.c1
       have hk2 := HY.out.c2
       have HB1 := Lib.hid (HB.out.drew.trans (hb.mono HB.out.drew.size))
       clear hb)
    | (go_at_call 117
       with_reducible refine (HN.out _).mono ?_
       rintro e w2 ⟨rfl, hb⟩
       have HZ := Lib.hid (HY.out.keep hb)
       have hl0 := HZ.out.c0
       have hl1 := HZ.out.c1
       have hl2 := HZ.out.c2
       have HB2 := Lib.hid (HB1.out.trans (hb.mono HB1.out.size))
       clear hb))
  go_wp2
  go_ret
  exact ⟨congrArg (fun x => Ending.returned (.int .i64 x)) HW.out, HB2.out⟩
end Geo
end Go.Proofs.YtcojgpjappjobaaGreatDoor
/- Of numbers that may not be: where the parts would begin is some number. -/
namespace Go.Proofs.YtcojgpjappjobaaGreatDoor
open Go.RowKit Go.MapKept
namespace Geo

/-- some number is returned, and what there was stays -/
def Some' (w : World) (r : Ending) (w' : World) : Prop := ∃ v, r = .returned (.int .i64 v) ∧ I64 v ∧ Below w.heap.size w w'

theorem blockWords_some (w : World) (n m s : Int) (h : I64 s) :
    Calls Tryz.prog 117 #[.agg #[.int .i64 n, .int .i64 m, .int .i64 s]] w (Some' w) := by
  by_cases h0 : 0 ≤ s
  · refine (blockWords_any w n m s h0 h.2).mono ?_
    rintro r w' ⟨rfl, hb⟩
    have := h.2
    exact ⟨_, rfl, by unfold I64; omega, hb⟩
  · have hd : -9223372036854775808 ≤ s.tdiv 8 ∧ s.tdiv 8 ≤ 0 := by
      obtain ⟨k, rfl⟩ : ∃ k : Nat, s = -(k : Int) := ⟨(-s).toNat, by omega⟩
      rw [Int.neg_tdiv]
      have h1 := h.1
      have : ((k : Int)).tdiv 8 = (k : Int) / 8 := Int.tdiv_eq_ediv_of_nonneg (by omega)
      omega
    obtain ⟨h1, h2⟩ := h
    go_enter Tryz.func117, Tryz.ntmps117
    go_wp2
    go_ret
    exact ⟨_, rfl, by unfold I64; omega, (Below.refl _ _).alloc (Nat.le_refl _) _⟩

theorem bitWords_some (w : World) (n m s : Int) (h : I64 n) :
    Calls Tryz.prog 120 #[.agg #[.int .i64 n, .int .i64 m, .int .i64 s]] w (Some' w) := by
  have HP := Lib.hid (fun w => parts_some w n 64 h (.inr rfl))
  go_enter Tryz.func120, Tryz.ntmps120
  go_wp2_with (go_at_call 159; refine (HP.out _).mono ?_; rintro e w' ⟨⟨v, rfl, hv⟩, rfl⟩)
  go_ret
  exact ⟨_, rfl, hv, (Below.refl _ _).alloc (Nat.le_refl _) _⟩

theorem slotsAt_some (w : World) (n m s : Int) :
    Calls Tryz.prog 113 #[.agg #[.int .i64 n, .int .i64 m, .int .i64 s]] w (Some' w) := by
  go_enter Tryz.func113, Tryz.ntmps113
  go_wp2
  go_ret
  exact ⟨_, rfl, by unfold I64 wrap64; omega, (Below.refl _ _).alloc (Nat.le_refl _) _⟩

set_option maxHeartbeats 1000000 in
theorem bitmapAt_some (w : World) (n m s : Int) (h1 : I64 n) :
    Calls Tryz.prog 119 #[.agg #[.int .i64 n, .int .i64 m, .int .i64 s]] w (Some' w) := by
  have HS := Lib.hid (fun w => slotsAt_some w n m s)
  have HF := Lib.hid (fun w => filled_some w n h1)
  have HX := Lib.hid (boxed w n m s 34)
  have HB := Lib.hid ((Below.refl w.heap.size w).alloc (Nat.le_refl _) (.cells #[.int .i64 n, .int .i64 m, .int .i64 s] 34))
  clear h1
  go_enter Tryz.func119, Tryz.ntmps119
  go_wp2
  generalize w.alloc (.cells #[.int .i64 n, .int .i64 m, .int .i64 s] 34) = W at *
  have hc0 := HX.out.c0
  have hc1 := HX.out.c1
  have hc2 := HX.out.c2
  go_region_held3 (fun W' => W'.cell? ⟨w.heap.size, 0, none⟩ = some (.int .i64 n) ∧ W'.cell? ⟨w.heap.size, 1, none⟩ = some (.int .i64 m) ∧ W'.cell? ⟨w.heap.size, 2, none⟩ = some (.int .i64 s)) (go_keep)
    (first
    | (go_at_call 113
       with_reducible refine (HS.out _).mono ?_
       rintro e w1 ⟨v1, rfl, _, hb⟩
       have HY := Lib.hid (HX.out.drew.keep hb)
       have hk0 := HY.out.c0
       have hk1 := HY.out.c1
       have hk2 := HY.out.c2
       have HB1 := Lib.hid (HB.out.drew.trans (hb.mono HB.out.drew.size))
       clear hb)
    | (go_at_call 155
       with_reducible refine (HF.out _).mono ?_
       rintro e w1 ⟨⟨v2, rfl, _⟩, rfl⟩))
  go_wp2
  go_ret
  exact ⟨_, rfl, i64_wrap _, HB1.out⟩

set_option maxHeartbeats 1000000 in
theorem blocksAt_some (w : World) (n m s : Int) (h1 : I64 n) :
    Calls Tryz.prog 116 #[.agg #[.int .i64 n, .int .i64 m, .int .i64 s]] w (Some' w) := by
  have HS := Lib.hid (fun w => bitmapAt_some w n m s h1)
  have HN := Lib.hid (fun w => bitWords_some w n m s h1)
  have HF := Lib.hid (fun w n h => filled_some w n h)
  have HX := Lib.hid (boxed w n m s 34)
  have HB := Lib.hid ((Below.refl w.heap.size w).alloc (Nat.le_refl _) (.cells #[.int .i64 n, .int .i64 m, .int .i64 s] 34))
  clear h1
  go_enter Tryz.func116, Tryz.ntmps116
  go_wp2
  generalize w.alloc (.cells #[.int .i64 n, .int .i64 m, .int .i64 s] 34) = W at *
  have hc0 := HX.out.c0
  have hc1 := HX.out.c1
  have hc2 := HX.out.c2
  go_region_held3 (fun W' => W'.cell? ⟨w.heap.size, 0, none⟩ = some (.int .i64 n) ∧ W'.cell? ⟨w.heap.size, 1, none⟩ = some (.int .i64 m) ∧ W'.cell? ⟨w.heap.size, 2, none⟩ = some (.int .i64 s)) (go_keep)
    (first
    | (go_at_call 119
       with_reducible refine (HS.out _).mono ?_
       rintro e w1 ⟨v1, rfl, _, hb⟩
       have HY := Lib.hid (HX.out.drew.keep hb)
       have hk0 := HY.out.c0
       have hk1 := HY.out.c1
       have hk2 := HY.out.c2
       have HB1 := Lib.hid (HB.out.drew.trans (hb.mono HB.out.drew.size))
       clear hb)
    | (go_at_call 120
       with_reducible refine (HN.out _).mono ?_
       rintro e w2 ⟨v2, rfl, hv2, hb⟩
       have HV := Lib.hid hv2
       clear hv2
       have HZ := Lib.hid (HY.out.keep hb)
       have hl0 := HZ.out.c0
       have hl1 := HZ.out.c1
       have hl2 := HZ.out.c2
       have HB2 := Lib.hid (HB1.out.trans (hb.mono HB1.out.size))
       clear hb)
    | (go_at_call 155
       with_reducible refine (HF.out _ _ HV.out).mono ?_
       rintro e w3 ⟨⟨v3, rfl, _⟩, rfl⟩))
  go_wp2
  go_ret
  exact ⟨_, rfl, i64_wrap _, HB2.out⟩
end Geo
end Go.Proofs.YtcojgpjappjobaaGreatDoor
