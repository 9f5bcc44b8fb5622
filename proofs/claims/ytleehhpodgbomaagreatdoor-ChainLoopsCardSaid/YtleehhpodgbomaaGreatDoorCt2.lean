/- Texts laid together: BmNext, BmRange, BmWords, BmRef, BmRefW, BmSame, BmOf, BmRefOf, GeoMath, GeoStep, GeoAt, GeoSome, GeoMay, GeoCalls, GeoBits, GeoLives. -/
import Derived.Test.YtleehhpodgbomaaGreatDoorCt1
import Derived.Laws.OwnMore
import Derived.OneCell
import Derived.ArgAppend
import Derived.Lib.SliceRun
import Derived.Deep.RegionHeld3
import Derived.BigCall
import Derived.Laws.BitsAllLaws
import Derived.Test.YtleehhpodgbomaaGreatDoorRows
import Derived.WalkKit
import Derived.ProofKit
import Derived.IntWalk
import Derived.MapKept
import Derived.Lib.Hide
/- The next block, and blocks one behind the other. -/
namespace Go.Proofs.YtleehhpodgbomaaGreatDoor
open Go.RowKit Go.MapKept
namespace Bm
open Pack (Wds Nts)

theorem not_u64 (y : Nat) (hy : y < 18446744073709551616) : bits BinOp.xor IntKind.u64 IntKind.u64.max (y : Int) = ((18446744073709551615 - y : Nat) : Int) := by
  have := u64_xor_nat 18446744073709551615 y (by decide) hy
  rw [show IntKind.u64.max = ((18446744073709551615 : Nat) : Int) from rfl, this]
  congr 1
  apply Nat.eq_of_testBit_eq
  intro i
  rw [Nat.testBit_xor, not_bit _ _ hy, top_bit]
  by_cases hi : i < 64
  · simp [hi]
  · have : y.testBit i = false := Nat.testBit_lt_two_pow (Nat.lt_of_lt_of_le hy (Nat.pow_le_pow_right (n := 2) (i := 64) (by omega) (by omega)))
    simp [hi, this]

section
variable {w : World} {p q K C n : Nat} {f : Nat → Bool}
set_option maxRecDepth 100000 in
set_option maxHeartbeats 2000000 in
theorem next_true (h : Mp w p q K C n f) (hT : Tab w) (x : Int) (s : Nat) (hs : (s : Int) = max x 0) (hx : x ≤ 9223372036854775807) :
    Calls Tryz.prog 75 #[.pointer (some ⟨p, 0, none⟩), .int .i64 x, .bool true] w fun e w' => e = .returned (.int .i64 (next f true n s)) ∧ w = w' := by
  have hc1 := h.c1
  have hkk := h.kk
  have hmx := h.max
  have hs2 : s ≤ 9223372036854775807 := by omega
  have HB := Lib.hid (fun w => bitOf_any s hs2 w)
  have hp0 : 0 < 2 ^ (s % 64) := Nat.pow_pos (by omega)
  have hpl := pow_lt64 (Nat.mod_lt s (show 64 > 0 by omega))
  have H := Lib.hid h
  have HT := Lib.hid hT
  clear h hT
  obtain ⟨a0, ha0⟩ : ∃ a0 : Nat, a0 = 2 ^ (s % 64) - 1 := ⟨_, rfl⟩
  have hsub : IntKind.u64.wrap (((2 ^ (s % 64) : Nat) : Int) - 1) = (a0 : Int) := by
    subst ha0
    generalize 2 ^ (s % 64) = y at *
    rw [IntKind.wrap_u64]
    omega
  have HA := Lib.hid (show a0 = 2 ^ (s - 64 * (s / 64)) - 1 by rw [ha0, show s - 64 * (s / 64) = s % 64 by omega])
  generalize 2 ^ (s % 64) = y0 at *
  clear ha0 hp0 hpl
  rcases Int.lt_or_le x 0 with hn | hn
  · have hs0 : s = 0 := by omega
    have HZ := Lib.hid hs0
    have HB2 := Lib.hid (fun w => show Calls Tryz.prog 78 #[.int .i64 0] w _ from hs0 ▸ HB.out w)
    clear hs hs0 HB
    rename Hid (∀ (w : World), Calls _ _ #[.int .i64 0] w _) => HB
    go_enter Tryz.func75, Tryz.ntmps75
    go_wp2_with (go_at_call 78; refine (HB.out _).mono ?_; rintro e w' ⟨rfl, rfl⟩)
    clear hsub
    go_loop [7, 8] (fun a i => ∃ k : Nat, s / 64 ≤ k ∧ i = .int .i64 (k : Int) ∧ a = .int .u64 ((2 ^ (s - 64 * k) - 1 : Nat) : Int) ∧ ∀ b, s ≤ b → b < 64 * k → b < n → f b ≠ true) (fun _ i => K - (intOf i).toNat)
    case atStart => exact ⟨s / 64, Nat.le_refl _, by rw [HZ.out]; rfl, by rw [← HA.out], fun b h1 h2 => by omega⟩
    case round =>
      obtain ⟨k, hk, rfl, rfl, hpre⟩ := hrel
      have HP := Lib.hid hpre
      clear hpre
      by_cases hlt : k < K
      · have hrc := H.out.row.cell hlt
        have hlt64 : s - 64 * k < 64 := by omega
        have hal : 2 ^ (s - 64 * k) - 1 < 18446744073709551616 := by have := pow_lt64 hlt64; omega
        have han := andNot_u64 _ _ (wd_lt (fun b => f b == true) k) hal
        rw [wd_fro f true s k hlt64, wd_used] at han
        have hYl := wd_lt (fro f true s) k
        have HZ0 := Lib.hid (fun hz b h1 h2 h3 => fro_none (f := f) (u := true) (s := s) (k := k) hz b h1 h2 h3)
        have HZ1 := Lib.hid (fun hz => fro_some (n := n) (f := f) (u := true) (s := s) (k := k) HP.out hz)
        generalize wd (fro f true s) k = Y at *
        generalize wd f k = y at *
        have HA2 := Lib.hid (show 2 ^ (s - 64 * (k + 1)) - 1 = 0 by rw [show s - 64 * (k + 1) = 0 by omega])
        generalize 2 ^ (s - 64 * k) - 1 = aa at *
        clear hlt64 hal
        have hi0 : (0 : Int) ≤ (k : Int) := by omega
        have hi1 : (k : Int) < (K : Int) := by omega
        by_cases hY : Y = 0
        · have HN := Lib.hid (HZ0.out hY)
          have hz1 : ((Y : Int) == 0) = true := by simp; omega
          have hz2 : ((Y : Int) != 0) = false := by simp; omega
          clear hY
          clear HZ0 HZ1 hYl
          go_wp2
          go_round
          case rel =>
            refine ⟨k + 1, by omega, by go_num, by rw [HA2.out]; rfl, fun b h1 h2 h3 => ?_⟩
            by_cases hb : b < 64 * k
            · exact HP.out b h1 hb h3
            · exact HN.out b (by omega) h2 h1
          case measure => simp [intOf]; omega
        · obtain ⟨hnx, hc64⟩ := HZ1.out hY
          have hne : ((Y : Int) == 0) = false := by simp; omega
          have hne2 : ((Y : Int) != 0) = true := by simp; omega
          have HTZ := Lib.hid (tz_any Y hYl hY w HT.out)
          have HX := Lib.hid hnx.next
          clear hnx HZ0 HZ1 hYl hY
          generalize Lib.ctz 64 Y = c at *
          obtain ⟨v, hv⟩ : ∃ v : Nat, v = 64 * k + c := ⟨_, rfl⟩
          rw [← hv] at HX
          have hsum : (k : Int) * 64 + (c : Int) = (v : Int) := by omega
          have HBN := Lib.hid (blockOrNone_any H.out v)
          rw [HX.out] at HBN
          have hv2 : v ≤ 100000 := by omega
          clear hv
          go_wp2_with fail
          refine HTZ.out.mono ?_
          rintro e w' ⟨rfl, rfl⟩
          go_wp2_with fail
          refine HBN.out.mono ?_
          rintro e w' ⟨rfl, rfl⟩
          go_wp2
          go_ret
          exact ⟨rfl, rfl⟩
      · have HX := Lib.hid (Nx.next (.inl ⟨rfl, fun b h1 h2 => HP.out b h1 (by omega) h2⟩ : Nx f true n s (-1)))
        go_wp2
        go_ret
        exact ⟨by rw [← HX.out]; rfl, rfl⟩
  · obtain rfl : x = (s : Int) := by omega
    clear hs
    go_enter Tryz.func75, Tryz.ntmps75
    go_wp2_with (go_at_call 78; refine (HB.out _).mono ?_; rintro e w' ⟨rfl, rfl⟩)
    clear hsub
    go_loop [7, 8] (fun a i => ∃ k : Nat, s / 64 ≤ k ∧ i = .int .i64 (k : Int) ∧ a = .int .u64 ((2 ^ (s - 64 * k) - 1 : Nat) : Int) ∧ ∀ b, s ≤ b → b < 64 * k → b < n → f b ≠ true) (fun _ i => K - (intOf i).toNat)
    case atStart => exact ⟨s / 64, Nat.le_refl _, rfl, by rw [← HA.out], fun b h1 h2 => by omega⟩
    case round =>
      obtain ⟨k, hk, rfl, rfl, hpre⟩ := hrel
      have HP := Lib.hid hpre
      clear hpre
      by_cases hlt : k < K
      · have hrc := H.out.row.cell hlt
        have hlt64 : s - 64 * k < 64 := by omega
        have hal : 2 ^ (s - 64 * k) - 1 < 18446744073709551616 := by have := pow_lt64 hlt64; omega
        have han := andNot_u64 _ _ (wd_lt (fun b => f b == true) k) hal
        rw [wd_fro f true s k hlt64, wd_used] at han
        have hYl := wd_lt (fro f true s) k
        have HZ0 := Lib.hid (fun hz b h1 h2 h3 => fro_none (f := f) (u := true) (s := s) (k := k) hz b h1 h2 h3)
        have HZ1 := Lib.hid (fun hz => fro_some (n := n) (f := f) (u := true) (s := s) (k := k) HP.out hz)
        generalize wd (fro f true s) k = Y at *
        generalize wd f k = y at *
        have HA2 := Lib.hid (show 2 ^ (s - 64 * (k + 1)) - 1 = 0 by rw [show s - 64 * (k + 1) = 0 by omega])
        generalize 2 ^ (s - 64 * k) - 1 = aa at *
        clear hlt64 hal
        have hi0 : (0 : Int) ≤ (k : Int) := by omega
        have hi1 : (k : Int) < (K : Int) := by omega
        by_cases hY : Y = 0
        · have HN := Lib.hid (HZ0.out hY)
          have hz1 : ((Y : Int) == 0) = true := by simp; omega
          have hz2 : ((Y : Int) != 0) = false := by simp; omega
          clear hY
          clear HZ0 HZ1 hYl
          go_wp2
          go_round
          case rel =>
            refine ⟨k + 1, by omega, by go_num, by rw [HA2.out]; rfl, fun b h1 h2 h3 => ?_⟩
            by_cases hb : b < 64 * k
            · exact HP.out b h1 hb h3
            · exact HN.out b (by omega) h2 h1
          case measure => simp [intOf]; omega
        · obtain ⟨hnx, hc64⟩ := HZ1.out hY
          have hne : ((Y : Int) == 0) = false := by simp; omega
          have hne2 : ((Y : Int) != 0) = true := by simp; omega
          have HTZ := Lib.hid (tz_any Y hYl hY w HT.out)
          have HX := Lib.hid hnx.next
          clear hnx HZ0 HZ1 hYl hY
          generalize Lib.ctz 64 Y = c at *
          obtain ⟨v, hv⟩ : ∃ v : Nat, v = 64 * k + c := ⟨_, rfl⟩
          rw [← hv] at HX
          have hsum : (k : Int) * 64 + (c : Int) = (v : Int) := by omega
          have HBN := Lib.hid (blockOrNone_any H.out v)
          rw [HX.out] at HBN
          have hv2 : v ≤ 100000 := by omega
          clear hv
          go_wp2_with fail
          refine HTZ.out.mono ?_
          rintro e w' ⟨rfl, rfl⟩
          go_wp2_with fail
          refine HBN.out.mono ?_
          rintro e w' ⟨rfl, rfl⟩
          go_wp2
          go_ret
          exact ⟨rfl, rfl⟩
      · have HX := Lib.hid (Nx.next (.inl ⟨rfl, fun b h1 h2 => HP.out b h1 (by omega) h2⟩ : Nx f true n s (-1)))
        go_wp2
        go_ret
        exact ⟨by rw [← HX.out]; rfl, rfl⟩
set_option maxRecDepth 100000 in
set_option maxHeartbeats 2000000 in
theorem next_false (h : Mp w p q K C n f) (hT : Tab w) (x : Int) (s : Nat) (hs : (s : Int) = max x 0) (hx : x ≤ 9223372036854775807) :
    Calls Tryz.prog 75 #[.pointer (some ⟨p, 0, none⟩), .int .i64 x, .bool false] w fun e w' => e = .returned (.int .i64 (next f false n s)) ∧ w = w' := by
  have hc1 := h.c1
  have hkk := h.kk
  have hmx := h.max
  have hs2 : s ≤ 9223372036854775807 := by omega
  have HB := Lib.hid (fun w => bitOf_any s hs2 w)
  have hp0 : 0 < 2 ^ (s % 64) := Nat.pow_pos (by omega)
  have hpl := pow_lt64 (Nat.mod_lt s (show 64 > 0 by omega))
  have H := Lib.hid h
  have HT := Lib.hid hT
  clear h hT
  obtain ⟨a0, ha0⟩ : ∃ a0 : Nat, a0 = 2 ^ (s % 64) - 1 := ⟨_, rfl⟩
  have hsub : IntKind.u64.wrap (((2 ^ (s % 64) : Nat) : Int) - 1) = (a0 : Int) := by
    subst ha0
    generalize 2 ^ (s % 64) = y at *
    rw [IntKind.wrap_u64]
    omega
  have HA := Lib.hid (show a0 = 2 ^ (s - 64 * (s / 64)) - 1 by rw [ha0, show s - 64 * (s / 64) = s % 64 by omega])
  generalize 2 ^ (s % 64) = y0 at *
  clear ha0 hp0 hpl
  rcases Int.lt_or_le x 0 with hn | hn
  · have hs0 : s = 0 := by omega
    have HZ := Lib.hid hs0
    have HB2 := Lib.hid (fun w => show Calls Tryz.prog 78 #[.int .i64 0] w _ from hs0 ▸ HB.out w)
    clear hs hs0 HB
    rename Hid (∀ (w : World), Calls _ _ #[.int .i64 0] w _) => HB
    go_enter Tryz.func75, Tryz.ntmps75
    go_wp2_with (go_at_call 78; refine (HB.out _).mono ?_; rintro e w' ⟨rfl, rfl⟩)
    clear hsub
    go_loop [7, 8] (fun a i => ∃ k : Nat, s / 64 ≤ k ∧ i = .int .i64 (k : Int) ∧ a = .int .u64 ((2 ^ (s - 64 * k) - 1 : Nat) : Int) ∧ ∀ b, s ≤ b → b < 64 * k → b < n → f b ≠ false) (fun _ i => K - (intOf i).toNat)
    case atStart => exact ⟨s / 64, Nat.le_refl _, by rw [HZ.out]; rfl, by rw [← HA.out], fun b h1 h2 => by omega⟩
    case round =>
      obtain ⟨k, hk, rfl, rfl, hpre⟩ := hrel
      have HP := Lib.hid hpre
      clear hpre
      by_cases hlt : k < K
      · have hrc := H.out.row.cell hlt
        have hlt64 : s - 64 * k < 64 := by omega
        have hal : 2 ^ (s - 64 * k) - 1 < 18446744073709551616 := by have := pow_lt64 hlt64; omega
        have han := andNot_u64 _ _ (wd_lt (fun b => f b == false) k) hal
        rw [wd_fro f false s k hlt64] at han
        have hnot := not_u64 (wd f k) (wd_lt f k)
        rw [wd_free] at hnot
        have hnot2 : bits BinOp.xor IntKind.u64 (if IntKind.u64.signed = true then -1 else IntKind.u64.max) (wd f k : Int) = (wd (fun b => f b == false) k : Int) := hnot
        generalize wd (fun b => f b == false) k = nx at *
        have hYl := wd_lt (fro f false s) k
        have HZ0 := Lib.hid (fun hz b h1 h2 h3 => fro_none (f := f) (u := false) (s := s) (k := k) hz b h1 h2 h3)
        have HZ1 := Lib.hid (fun hz => fro_some (n := n) (f := f) (u := false) (s := s) (k := k) HP.out hz)
        generalize wd (fro f false s) k = Y at *
        generalize wd f k = y at *
        have HA2 := Lib.hid (show 2 ^ (s - 64 * (k + 1)) - 1 = 0 by rw [show s - 64 * (k + 1) = 0 by omega])
        generalize 2 ^ (s - 64 * k) - 1 = aa at *
        clear hlt64 hal
        have hi0 : (0 : Int) ≤ (k : Int) := by omega
        have hi1 : (k : Int) < (K : Int) := by omega
        by_cases hY : Y = 0
        · have HN := Lib.hid (HZ0.out hY)
          have hz1 : ((Y : Int) == 0) = true := by simp; omega
          have hz2 : ((Y : Int) != 0) = false := by simp; omega
          clear hY
          clear HZ0 HZ1 hYl
          go_wp2
          go_round
          case rel =>
            refine ⟨k + 1, by omega, by go_num, by rw [HA2.out]; rfl, fun b h1 h2 h3 => ?_⟩
            by_cases hb : b < 64 * k
            · exact HP.out b h1 hb h3
            · exact HN.out b (by omega) h2 h1
          case measure => simp [intOf]; omega
        · obtain ⟨hnx, hc64⟩ := HZ1.out hY
          have hne : ((Y : Int) == 0) = false := by simp; omega
          have hne2 : ((Y : Int) != 0) = true := by simp; omega
          have HTZ := Lib.hid (tz_any Y hYl hY w HT.out)
          have HX := Lib.hid hnx.next
          clear hnx HZ0 HZ1 hYl hY
          generalize Lib.ctz 64 Y = c at *
          obtain ⟨v, hv⟩ : ∃ v : Nat, v = 64 * k + c := ⟨_, rfl⟩
          rw [← hv] at HX
          have hsum : (k : Int) * 64 + (c : Int) = (v : Int) := by omega
          have HBN := Lib.hid (blockOrNone_any H.out v)
          rw [HX.out] at HBN
          have hv2 : v ≤ 100000 := by omega
          clear hv
          go_wp2_with fail
          refine HTZ.out.mono ?_
          rintro e w' ⟨rfl, rfl⟩
          go_wp2_with fail
          refine HBN.out.mono ?_
          rintro e w' ⟨rfl, rfl⟩
          go_wp2
          go_ret
          exact ⟨rfl, rfl⟩
      · have HX := Lib.hid (Nx.next (.inl ⟨rfl, fun b h1 h2 => HP.out b h1 (by omega) h2⟩ : Nx f false n s (-1)))
        go_wp2
        go_ret
        exact ⟨by rw [← HX.out]; rfl, rfl⟩
  · obtain rfl : x = (s : Int) := by omega
    clear hs
    go_enter Tryz.func75, Tryz.ntmps75
    go_wp2_with (go_at_call 78; refine (HB.out _).mono ?_; rintro e w' ⟨rfl, rfl⟩)
    clear hsub
    go_loop [7, 8] (fun a i => ∃ k : Nat, s / 64 ≤ k ∧ i = .int .i64 (k : Int) ∧ a = .int .u64 ((2 ^ (s - 64 * k) - 1 : Nat) : Int) ∧ ∀ b, s ≤ b → b < 64 * k → b < n → f b ≠ false) (fun _ i => K - (intOf i).toNat)
    case atStart => exact ⟨s / 64, Nat.le_refl _, rfl, by rw [← HA.out], fun b h1 h2 => by omega⟩
    case round =>
      obtain ⟨k, hk, rfl, rfl, hpre⟩ := hrel
      have HP := Lib.hid hpre
      clear hpre
      by_cases hlt : k < K
      · have hrc := H.out.row.cell hlt
        have hlt64 : s - 64 * k < 64 := by omega
        have hal : 2 ^ (s - 64 * k) - 1 < 18446744073709551616 := by have := pow_lt64 hlt64; omega
        have han := andNot_u64 _ _ (wd_lt (fun b => f b == false) k) hal
        rw [wd_fro f false s k hlt64] at han
        have hnot := not_u64 (wd f k) (wd_lt f k)
        rw [wd_free] at hnot
        have hnot2 : bits BinOp.xor IntKind.u64 (if IntKind.u64.signed = true then -1 else IntKind.u64.max) (wd f k : Int) = (wd (fun b => f b == false) k : Int) := hnot
        generalize wd (fun b => f b == false) k = nx at *
        have hYl := wd_lt (fro f false s) k
        have HZ0 := Lib.hid (fun hz b h1 h2 h3 => fro_none (f := f) (u := false) (s := s) (k := k) hz b h1 h2 h3)
        have HZ1 := Lib.hid (fun hz => fro_some (n := n) (f := f) (u := false) (s := s) (k := k) HP.out hz)
        generalize wd (fro f false s) k = Y at *
        generalize wd f k = y at *
        have HA2 := Lib.hid (show 2 ^ (s - 64 * (k + 1)) - 1 = 0 by rw [show s - 64 * (k + 1) = 0 by omega])
        generalize 2 ^ (s - 64 * k) - 1 = aa at *
        clear hlt64 hal
        have hi0 : (0 : Int) ≤ (k : Int) := by omega
        have hi1 : (k : Int) < (K : Int) := by omega
        by_cases hY : Y = 0
        · have HN := Lib.hid (HZ0.out hY)
          have hz1 : ((Y : Int) == 0) = true := by simp; omega
          have hz2 : ((Y : Int) != 0) = false := by simp; omega
          clear hY
          clear HZ0 HZ1 hYl
          go_wp2
          go_round
          case rel =>
            refine ⟨k + 1, by omega, by go_num, by rw [HA2.out]; rfl, fun b h1 h2 h3 => ?_⟩
            by_cases hb : b < 64 * k
            · exact HP.out b h1 hb h3
            · exact HN.out b (by omega) h2 h1
          case measure => simp [intOf]; omega
        · obtain ⟨hnx, hc64⟩ := HZ1.out hY
          have hne : ((Y : Int) == 0) = false := by simp; omega
          have hne2 : ((Y : Int) != 0) = true := by simp; omega
          have HTZ := Lib.hid (tz_any Y hYl hY w HT.out)
          have HX := Lib.hid hnx.next
          clear hnx HZ0 HZ1 hYl hY
          generalize Lib.ctz 64 Y = c at *
          obtain ⟨v, hv⟩ : ∃ v : Nat, v = 64 * k + c := ⟨_, rfl⟩
          rw [← hv] at HX
          have hsum : (k : Int) * 64 + (c : Int) = (v : Int) := by omega
          have HBN := Lib.hid (blockOrNone_any H.out v)
          rw [HX.out] at HBN
          have hv2 : v ≤ 100000 := by omega
          clear hv
          go_wp2_with fail
          refine HTZ.out.mono ?_
          rintro e w' ⟨rfl, rfl⟩
          go_wp2_with fail
          refine HBN.out.mono ?_
          rintro e w' ⟨rfl, rfl⟩
          go_wp2
          go_ret
          exact ⟨rfl, rfl⟩
      · have HX := Lib.hid (Nx.next (.inl ⟨rfl, fun b h1 h2 => HP.out b h1 (by omega) h2⟩ : Nx f false n s (-1)))
        go_wp2
        go_ret
        exact ⟨by rw [← HX.out]; rfl, rfl⟩
theorem next_any (h : Mp w p q K C n f) (hT : Tab w) (x : Int) (u : Bool) (hx : x ≤ 9223372036854775807) :
    Calls Tryz.prog 75 #[.pointer (some ⟨p, 0, none⟩), .int .i64 x, .bool u] w fun e w' => e = .returned (.int .i64 (next f u n x.toNat)) ∧ w = w' := by
  cases u
  · exact next_false h hT x x.toNat (by omega) hx
  · exact next_true h hT x x.toNat (by omega) hx
end
end Bm
end Go.Proofs.YtleehhpodgbomaaGreatDoor
/- One block put or dropped; blocks one behind the other. -/
namespace Go.Proofs.YtleehhpodgbomaaGreatDoor
open Go.RowKit Go.MapKept
namespace Bm
open Pack (Wds Nts)

section
variable {w : World} {p q K C n : Nat} {f : Nat → Bool}
theorem nts_new (w : World) (x : Int) (h1 : -9223372036854775808 ≤ x) (h2 : x ≤ 9223372036854775807) (hq : q < w.heap.size) : ∀ w', Chg q (w.alloc (.cells #[.int .i64 x] 3)) w' → Nts w' (some ⟨w.heap.size, 0, none⟩) [x] := fun w' hc =>
  ⟨fun y hy => by
    obtain rfl : y = x := by simpa using hy
    exact ⟨h1, h2⟩, by simp, fun j hj => by
    obtain rfl : j = 0 := by simpa using hj
    refine ⟨w.heap.size, 0, rfl, Nat.lt_of_lt_of_le (by simp) hc.size, ?_⟩
    rw [hc.cell (p := ⟨w.heap.size, 0 + 0, none⟩) (by simp) (by simp; omega)]
    exact Pack.alloc_cell _ _ _ _⟩
theorem tn_one (n : Nat) (is : Bool) (f : Nat → Bool) (x : Int) : tn n is f [x] = (trn n is f x, if trd n is f x then 1 else 0) := by
  simp [tn, tnp]
theorem put1_any (h : Mp w p q K C n f) (x : Int) (h1 : -9223372036854775808 ≤ x) (h2 : x ≤ 9223372036854775807) (c : Nat) :
    Calls Tryz.prog 45 #[.pointer (some ⟨p, 0, none⟩), .slice (some ⟨w.heap.size, 0, none⟩) 1 c] (w.alloc (.cells #[.int .i64 x] 3)) fun e w' => e = .returned (.int .i64 ((if trd n true f x then 1 else 0 : Nat) : Int)) ∧ Mp w' p q K C n (trn n true f x) ∧ Chg q w w' := by
  have hm := h.keep ((Below.refl _ _).alloc (Nat.le_refl _) (.cells #[.int .i64 x] 3))
  have := put_any hm (some ⟨w.heap.size, 0, none⟩) c [x] (nts_new w x h1 h2 h.row.lt)
  rw [tn_one] at this
  exact this.mono fun e w' ⟨he, hM, hC⟩ => ⟨he, hM, ((Chg.refl q w).alloc _).trans hC⟩
/-- it has them from s on, ahead of e, too -/
def fill (f : Nat → Bool) (s e b : Nat) : Bool := f b || decide (s ≤ b ∧ b < e)
theorem trn_in {b : Nat} (hb : b < n) (is : Bool) : trn n is f (b : Int) = upd f b is := by
  funext x
  unfold trn
  split
  · rw [Int.toNat_natCast]
  · rename_i h
    unfold trd at h
    rw [Int.toNat_natCast, decide_eq_true (by omega : (0 : Int) ≤ (b : Int) ∧ (b : Int) < (n : Int))] at h
    have h' : f b = is := by simpa using h
    unfold upd
    split
    · rename_i e; rw [e, h']
    · rfl
theorem fill_step (s b : Nat) (hs : s ≤ b) : upd (fill f s b) b true = fill f s (b + 1) := by
  funext x
  unfold upd fill
  by_cases hx : x = b
  · subst hx
    rw [if_pos rfl, decide_eq_true (by omega)]
    simp
  · rw [if_neg hx]
    have : decide (s ≤ x ∧ x < b) = decide (s ≤ x ∧ x < b + 1) := by rw [decide_eq_decide]; omega
    rw [this]
theorem fill_none (s : Nat) : fill f s s = f := by
  funext x
  unfold fill
  rw [decide_eq_false (by omega)]
  simp
/-- whether they may be had -/
def rgb (n : Nat) (f : Nat → Bool) (s c : Int) : Bool := decide (0 ≤ s ∧ s < (n : Int) ∧ 1 ≤ c ∧ c ≤ (n : Int) - s) && decide (next f true n s.toNat = -1 ∨ s + c ≤ next f true n s.toNat)
theorem rgb_iff {s c : Int} : rgb n f s c = true ↔ (0 ≤ s ∧ 1 ≤ c ∧ s + c ≤ (n : Int)) ∧ ∀ b : Nat, s ≤ (b : Int) → (b : Int) < s + c → f b = false := by
  unfold rgb
  rw [Bool.and_eq_true, decide_eq_true_eq, decide_eq_true_eq]
  constructor
  · rintro ⟨h, h2⟩
    refine ⟨by omega, fun b h3 h4 => ?_⟩
    rcases next_is f true n s.toNat with ⟨e, g⟩ | ⟨d, e, _, _, _, g⟩
    · have := g b (by omega) (by omega)
      simpa using this
    · have := g b (by omega) (by omega)
      simpa using this
  · rintro ⟨h, g⟩
    refine ⟨by omega, ?_⟩
    rcases next_is f true n s.toNat with ⟨e, _⟩ | ⟨d, e, h1, h2, h3, _⟩
    · exact .inl e
    · refine .inr ?_
      rcases Int.lt_or_le (next f true n s.toNat) (s + c) with hl | hl
      · have := g d (by omega) (by omega)
        rw [h3] at this
        cases this
      · exact hl
/-- what is there behind it -/
def rgf (n : Nat) (f : Nat → Bool) (s c : Int) : Nat → Bool := if rgb n f s c then fill f s.toNat (s + c).toNat else f

set_option maxRecDepth 100000 in
set_option maxHeartbeats 2000000 in
theorem range_any (h : Mp w p q K C n f) (hT : Tab w) (s c : Int) (hs1 : -9223372036854775808 ≤ s) (hs2 : s ≤ 9223372036854775807) (hc1 : -9223372036854775808 ≤ c) (hc2 : c ≤ 9223372036854775807) :
    Calls Tryz.prog 81 #[.pointer (some ⟨p, 0, none⟩), .int .i64 s, .int .i64 c] w fun e w' => e = .returned (.bool (rgb n f s c)) ∧ Mp w' p q K C n (rgf n f s c) ∧ Chg q w w' := by
  have hmx := h.max
  have hc0 := h.c0
  have H := Lib.hid h
  clear h
  unfold rgf
  by_cases hin : s < 0 ∨ (n : Int) ≤ s
  · have hr : rgb n f s c = false := by unfold rgb; rw [decide_eq_false (by omega)]; rfl
    rw [hr]
    have HI := Lib.hid (isBlock_no H.out s hin)
    clear hin hr hT
    go_enter Tryz.func81, Tryz.ntmps81
    go_wp2_with fail
    refine HI.out.mono ?_
    rintro e w' ⟨rfl, rfl⟩
    go_wp2
    go_ret
    exact ⟨rfl, H.out, Chg.refl _ _⟩
  · obtain ⟨a, rfl⟩ := Int.eq_ofNat_of_zero_le (show 0 ≤ s by omega)
    have ha : a < n := by omega
    have HI := Lib.hid (isBlock_yes H.out a ha)
    clear hin
    by_cases hcc : 1 ≤ c ∧ c ≤ (n : Int) - (a : Int)
    · obtain ⟨k, rfl⟩ := Int.eq_ofNat_of_zero_le (show 0 ≤ c by omega)
      have hk1 : ¬ (k : Int) < 1 := by omega
      have hk2 : ¬ (n : Int) - (a : Int) < (k : Int) := by omega
      have hx := next_lt f true n a
      have HN := Lib.hid (next_any H.out hT (a : Int) true (by omega))
      rw [Int.toNat_natCast] at HN
      have hrg : rgb n f (a : Int) (k : Int) = decide (next f true n a = -1 ∨ (a : Int) + (k : Int) ≤ next f true n a) := by
        unfold rgb; rw [decide_eq_true (by omega), Int.toNat_natCast]; rfl
      rw [hrg]
      clear hrg hT
      generalize next f true n a = r at *
      have hsum : (a : Int) + (k : Int) ≤ 65534 := by omega
      by_cases hr : r = -1 ∨ (a : Int) + (k : Int) ≤ r
      · rw [decide_eq_true hr, if_pos rfl]
        have HE := Lib.hid (show ((a : Int) + (k : Int)).toNat = a + k by omega)
        go_enter Tryz.func81, Tryz.ntmps81
        go_wp2_with fail
        refine HI.out.mono ?_
        rintro e w' ⟨rfl, rfl⟩
        go_wp2_with fail
        refine HN.out.mono ?_
        rintro e w' ⟨rfl, rfl⟩
        by_cases hm1 : r = -1
        · subst hm1
          clear hr hx
          go_wp2
          go_loopw [9] (fun i wr => ∃ b : Nat, a ≤ b ∧ b ≤ a + k ∧ i = .int .i64 (b : Int) ∧ Mp wr p q K C n (fill f a b) ∧ Chg q w wr) (fun i _ => a + k - (intOf i).toNat)
          case atStart => exact ⟨a, Nat.le_refl _, by omega, rfl, by rw [fill_none]; exact H.out, Chg.refl _ _⟩
          case round =>
            obtain ⟨b, hb1, hb2, rfl, hM, hC⟩ := hrel
            by_cases hlt : b < a + k
            · have hb0 : (b : Int) < (a : Int) + (k : Int) := by omega
              have hp := put1_any hM (b : Int) (by omega) (by omega) 1
              rw [trn_in (by omega : b < n), fill_step a b hb1] at hp
              have HP := Lib.hid hp
              have HC := Lib.hid hC
              clear hM hC hp
              go_wp2_with fail
              refine HP.out.mono ?_
              rintro e w' ⟨rfl, hM, hC⟩
              have HM2 := Lib.hid hM
              have HC2 := Lib.hid (HC.out.trans hC)
              clear hM hC
              go_wp2
              refine ⟨⟨b + 1, by omega, by omega, by go_num, HM2.out, HC2.out⟩, by simp [intOf]; omega⟩
            · obtain rfl : b = a + k := by omega
              have HM := Lib.hid hM
              have HC := Lib.hid hC
              clear hM hC
              have hb0 : ¬ ((a + k : Nat) : Int) < (a : Int) + (k : Int) := by omega
              go_wp2
              go_ret
              exact ⟨rfl, by rw [HE.out]; exact HM.out, HC.out⟩
        · have hm2 : ¬ r < (a : Int) + (k : Int) := by omega
          clear hr hx
          go_wp2
          go_loopw [9] (fun i wr => ∃ b : Nat, a ≤ b ∧ b ≤ a + k ∧ i = .int .i64 (b : Int) ∧ Mp wr p q K C n (fill f a b) ∧ Chg q w wr) (fun i _ => a + k - (intOf i).toNat)
          case atStart => exact ⟨a, Nat.le_refl _, by omega, rfl, by rw [fill_none]; exact H.out, Chg.refl _ _⟩
          case round =>
            obtain ⟨b, hb1, hb2, rfl, hM, hC⟩ := hrel
            by_cases hlt : b < a + k
            · have hb0 : (b : Int) < (a : Int) + (k : Int) := by omega
              have hp := put1_any hM (b : Int) (by omega) (by omega) 1
              rw [trn_in (by omega : b < n), fill_step a b hb1] at hp
              have HP := Lib.hid hp
              have HC := Lib.hid hC
              clear hM hC hp
              go_wp2_with fail
              refine HP.out.mono ?_
              rintro e w' ⟨rfl, hM, hC⟩
              have HM2 := Lib.hid hM
              have HC2 := Lib.hid (HC.out.trans hC)
              clear hM hC
              go_wp2
              refine ⟨⟨b + 1, by omega, by omega, by go_num, HM2.out, HC2.out⟩, by simp [intOf]; omega⟩
            · obtain rfl : b = a + k := by omega
              have HM := Lib.hid hM
              have HC := Lib.hid hC
              clear hM hC
              have hb0 : ¬ ((a + k : Nat) : Int) < (a : Int) + (k : Int) := by omega
              go_wp2
              go_ret
              exact ⟨rfl, by rw [HE.out]; exact HM.out, HC.out⟩
      · rw [decide_eq_false hr, if_neg (by simp)]
        have hm1 : ¬ r = -1 := by omega
        have hm2 : r < (a : Int) + (k : Int) := by omega
        clear hr hx
        go_enter Tryz.func81, Tryz.ntmps81
        go_wp2_with fail
        refine HI.out.mono ?_
        rintro e w' ⟨rfl, rfl⟩
        go_wp2_with fail
        refine HN.out.mono ?_
        rintro e w' ⟨rfl, rfl⟩
        go_wp2
        go_ret
        exact ⟨rfl, H.out, Chg.refl _ _⟩
    · have hr : rgb n f (a : Int) c = false := by unfold rgb; rw [decide_eq_false (by omega)]; rfl
      rw [hr]
      by_cases hk1 : c < 1
      · clear hr hT hcc
        go_enter Tryz.func81, Tryz.ntmps81
        go_wp2_with fail
        refine HI.out.mono ?_
        rintro e w' ⟨rfl, rfl⟩
        go_wp2
        go_ret
        exact ⟨rfl, H.out, Chg.refl _ _⟩
      · have hk2 : (n : Int) - (a : Int) < c := by omega
        clear hr hT hcc
        go_enter Tryz.func81, Tryz.ntmps81
        go_wp2_with fail
        refine HI.out.mono ?_
        rintro e w' ⟨rfl, rfl⟩
        go_wp2
        go_ret
        exact ⟨rfl, H.out, Chg.refl _ _⟩
end
end Bm
end Go.Proofs.YtleehhpodgbomaaGreatDoor
/- A map's words, a copy, whether two are the same. -/
namespace Go.Proofs.YtleehhpodgbomaaGreatDoor
open Go.RowKit Go.MapKept
namespace Bm
open Pack (Wds Nts u64_info)

theorem wds_news {W : World} {ad : Addr} {l : List Nat} (h : Wds W (some ad) l) : ∀ j u, (Pack.u64s l)[j]? = some u → W.cell? (ad.add j) = some u := by
  intro j u hu
  have hj : j < l.length := by
    have := (List.getElem?_eq_some_iff.1 hu).1
    simpa [Pack.u64s] using this
  obtain ⟨b, o, e, _, hc⟩ := h.at' j hj
  injection e with e
  subst e
  rw [Go.WideShapes.add_plain, hc, ← hu]
  simp [Pack.u64s, List.getElem?_eq_getElem hj]
theorem u64s_one (l : List Nat) : ∀ u ∈ Pack.u64s l, u.oneCell' = true := by
  intro u hu
  obtain ⟨x, _, rfl⟩ := List.mem_map.1 hu
  rfl
/-- a copy of words: a row of the call's own -/
theorem copy_row {W : World} {A : Option Addr} {l : List Nat} (c : Nat) (h : Wds W A l) (hA : A = none → c = 0) (hl : l.length ≤ 1000000) :
    ∃ (g gc : Nat) (w' : World), (Builtin.append_ #[22, 22] 22 #[.slice (some ⟨W.heap.size, 0, none⟩) 0 0, .slice A l.length c]).run Tryz.prog (W.alloc (.cells #[] 71)) = .ok (.slice (some ⟨g, 0, none⟩) l.length gc) w' ∧
      l.length ≤ gc ∧ W.heap.size ≤ g ∧ Row w' g 71 l.length (fun k => .int .u64 ((l.getD k 0 : Nat) : Int)) ∧ Below W.heap.size W w' := by
  obtain ⟨i0, hi0, hz0, hz1, hz2⟩ := info_parts u64_info
  have hown : (W.alloc (.cells #[] 71)).ownsRow W.heap.size 71 1 (.slice (some ⟨W.heap.size, 0, none⟩) 0 0) 0 [] := World.ownsRow_made W #[] 0 (Nat.le_refl _) (by unfold maxLen; omega) rfl
  have hb := (Below.refl W.heap.size W).alloc (Nat.le_refl _) (.cells #[] 71)
  cases A with
  | none =>
    have hl0 : l = [] := by
      cases l with
      | nil => rfl
      | cons b l =>
        obtain ⟨_, _, e, _⟩ := h.at' 0 (by simp)
        cases e
    subst hl0
    rw [hA rfl]
    exact ⟨_, _, _, run_append_owned_none (P := Tryz.prog) _ W.heap.size 22 22 71 i0 1 Tryz.underlying22 hi0 _ 0 [] hown, by simp, Nat.le_refl _, row_of_is (World.rowIs_alloc W #[] 71 _ (fun i hi => by simp at hi)), hb⟩
  | some ad =>
    obtain ⟨v', w', hr, h2, h3, h4, _⟩ := run_append_own_at (P := Tryz.prog) (W.alloc (.cells #[] 71)) W.heap.size 22 22 71 i0 (.int .u64 0) 1 8 Tryz.underlying22 hi0 hz0 hz1 hz2 rfl (by decide) _ 0 [] hown ad l.length c (Pack.u64s l) (by simp [Pack.u64s]) (wds_news (h.alloc _)) (u64s_one l) (by unfold maxLen; omega) (by omega) (by simp)
    rw [Nat.zero_add, List.nil_append] at h2
    have hne : v' ≠ .slice none 0 0 := fun e => by
      have := (h4.1 e).1
      cases this
    rcases h2.2 with ⟨e, _⟩ | ⟨g, cap, cur, e, hg, hh, hc, _, hsz, ht⟩
    · exact absurd e hne
    · subst e
      refine ⟨g, cap, w', hr, hc, hg, row_of_own h2 (fun i hi => ?_) rfl, hb.grown h3 (by simp) (fun k hk => Pack.row_base_lt hown hk)⟩
      simp [Pack.u64s, List.getD, List.getElem?_eq_getElem hi]

/-- an append whose run is known -/
theorem wpList_append_run {P : Program} {w w' : World} {ops : Array Oper} {rest : List Oper} {o : Oper} {a : Act} {Q : Exit → Act → World → Prop} (hgd : o.guard = none) (s x : Operand) (t : TypeId)
    (ho : o.op = .call { callee := .builtin .append, args := #[s, x], argTypes := #[t, t] }) (v u v' : Value) (hs : a.eval s = v) (hx : a.eval x = u) (hr : (Builtin.append_ #[t, t] o.type #[v, u]).run P w = .ok v' w')
    (h : wpList P ops Q rest (a.put o.dst v') w') : wpList P ops Q (o :: rest) a w := by
  refine wpList_plain hgd fun K hK => ?_
  unfold Oper.wp execOp
  simp only [ho, resolve, invoke, builtin, Sem.run_bind, Sem.run_pure, Result.andThen_ok, List.map_toArray, List.map_cons, List.map_nil, hs, hx, hr]
  exact hK _ _ h

/-- words of the call's own -/
def Wrd (w : World) (K : Nat) (x : Nat → Nat) (e : Ending) (w' : World) : Prop :=
  ∃ g gc : Nat, e = .returned (.slice (some ⟨g, 0, none⟩) K gc) ∧ K ≤ gc ∧ w.heap.size ≤ g ∧ Row w' g 71 K (fun k => .int .u64 (x k : Int)) ∧ Below w.heap.size w w'

section
variable {w : World} {p q K C n : Nat} {f : Nat → Bool}
set_option maxRecDepth 100000 in
set_option maxHeartbeats 1000000 in
theorem clone_any (ad : Addr) (c : Nat) (l : List Nat) (h : Wds w (some ad) l) (hl : l.length ≤ 1000000) :
    Calls Tryz.prog 38 #[.slice (some ad) l.length c] w (Wrd w l.length (fun k => l.getD k 0)) := by
  obtain ⟨g, gc, w', hr, h1, h2, h3, h4⟩ := copy_row c h (fun e => by cases e) hl
  have HR := Lib.hid hr
  have HX := Lib.hid (show Wrd w l.length (fun k => l.getD k 0) (.returned (.slice (some ⟨g, 0, none⟩) l.length gc)) w' from ⟨g, gc, rfl, h1, h2, h3, h4⟩)
  clear hr h1 h2 h3 h4 h
  have q40 : ∀ (w : World) (a : Option Addr) (n c n' c' : Nat), (binOp .eql 22 (.slice a n c) (.slice none n' c')).run Tryz.prog w = .ok (.bool a.isNone) w := fun w a n c n' c' => Lib.run_eql_slice_nil w _ _ a n c n' c' Tryz.underlying22
  go_enter Tryz.func38, Tryz.ntmps38
  go_wp2_with (at_builtin; refine wpList_append_run rfl (.tmp 5) (.tmp 6) 22 rfl _ _ _ rfl rfl HR.out ?_)
  go_ret
  exact HX.out

set_option maxRecDepth 100000 in
theorem words_any (h : Mp w p q K C n f) : Calls Tryz.prog 74 #[.pointer (some ⟨p, 0, none⟩)] w (Wrd w K (wd f)) := by
  have hc1 := h.c1
  have hk := h.kk
  have hmx := h.max
  have hcl := clone_any ⟨q, 0, none⟩ C (wds f K) (h.row.wds (by omega)) (by rw [wds_len]; omega)
  rw [wds_len] at hcl
  have HCL := Lib.hid (hcl.mono fun e w' ⟨g, gc, h1, h2, h3, h4, h5⟩ => (⟨g, gc, h1, h2, h3, h4.congr (fun i hi => by
    have : i < (wds f K).length := by rw [wds_len]; exact hi
    show Value.int .u64 (((wds f K).getD i 0 : Nat) : Int) = Value.int .u64 (wd f i : Int)
    rw [List.getD_eq_getElem?_getD, List.getElem?_eq_getElem this, Option.getD_some, wds_get]), h5⟩ : Wrd w K (wd f) e w'))
  clear hcl h hk hmx
  go_enter Tryz.func74, Tryz.ntmps74
  go_wp2_with fail
  refine HCL.out.mono ?_
  rintro e w' ⟨g, gc, rfl, h2, h3, h4, h5⟩
  have HX := Lib.hid (show Wrd w K (wd f) (.returned (.slice (some ⟨g, 0, none⟩) K gc)) w' from ⟨g, gc, rfl, h2, h3, h4, h5⟩)
  clear h2 h3 h4 h5
  go_wp2
  go_ret
  exact HX.out

/-- a map that the call made -/
def Cpy (w : World) (K n : Nat) (f : Nat → Bool) (e : Ending) (w' : World) : Prop :=
  ∃ p q C : Nat, e = .returned (.pointer (some ⟨p, 0, none⟩)) ∧ w.heap.size ≤ p ∧ w.heap.size ≤ q ∧ Mp w' p q K C n f ∧ Below w.heap.size w w'
theorem below_drew {w w1 : World} (h : Below w.drew.heap.size w.drew w1) : Below w.heap.size w w1 := ⟨h.os, h.tape, h.output, h.size, h.block⟩
theorem mp_box {w1 : World} {g gc : Nat} (hrow : Row w1 g 71 K (fun k => .int .u64 (wd f k : Int))) (hfar : ∀ b, n ≤ b → f b = false) (hm : n ≤ 65534) (hK : K = (n + 63) / 64) (hgc : K ≤ gc) :
    Mp (w1.alloc (.cells #[.int .i64 (n : Int), .slice (some ⟨g, 0, none⟩) K gc] 137)) w1.heap.size g K gc n f :=
  ⟨by simp, Pack.alloc_cell _ _ _ _, Pack.alloc_cell _ _ _ _, hrow.of_block (Below.heap_alloc _ _ _ hrow.lt), Nat.ne_of_gt hrow.lt, hfar, hm, hK, hgc⟩
set_option maxHeartbeats 1600000 in
set_option maxRecDepth 100000 in
theorem equal_any (A B : Option Addr) (c d : Nat) (l m : List Nat) (h : Wds w A l) (g : Wds w B m) :
    Calls Tryz.prog 128 #[.slice A l.length c, .slice B m.length d] w fun e w' => e = .returned (.bool (decide (l = m))) ∧ ∃ n, w' = w.drewN n := by
  have hn := h.len
  have hm := g.len
  have H := Lib.hid h
  have G := Lib.hid g
  clear h g
  by_cases hlen : l.length = m.length
  · go_enter Tryz.func128, Tryz.ntmps128
    go_wp2
    go_loopw [13] (fun i wr => ∃ (k n : Nat), k ≤ l.length ∧ i = .int .i64 (k : Int) ∧ l.take k = m.take k ∧ wr = w.drewN n) (fun i _ => l.length - (intOf i).toNat)
    case atStart => exact ⟨0, 0, Nat.zero_le _, rfl, rfl, rfl⟩
    case round =>
      obtain ⟨k, n, hk, rfl, hs, rfl⟩ := hrel
      have HS := Lib.hid hs
      clear hs
      by_cases hlt : k < l.length
      · have hlt2 : k < m.length := by omega
        obtain ⟨b, o, rfl, hb, hcell⟩ := H.out.at' k hlt
        obtain ⟨b2, o2, rfl, hb2, hcell2⟩ := G.out.at' k hlt2
        have hi0 : (0 : Int) ≤ (k : Int) := by omega
        have hi1 : (k : Int) < (l.length : Int) := by omega
        have hi2 : (k : Int) < (m.length : Int) := by omega
        have HE := Lib.hid (show l.take (k + 1) = m.take (k + 1) ↔ l[k] = m[k] by
          rw [List.take_succ_eq_append_getElem hlt, List.take_succ_eq_append_getElem (l := m) hlt2, HS.out, List.append_right_inj]
          simp)
        generalize l[k] = x at *
        generalize m[k] = y at *
        by_cases hxy : x = y
        · subst hxy
          have HE1 := Lib.hid (HE.out.2 rfl)
          clear HE
          go_wp2
          go_quiet (fail)
          go_wp2
          refine ⟨⟨k + 1, n + nq, by omega, by go_num, HE1.out, rfl⟩, by simp [intOf]; omega⟩
        · have hne : ¬ (x : Int) = (y : Int) := by omega
          go_wp2
          go_quiet (fail)
          go_wp2
          go_ret
          refine ⟨?_, n + nq, World.drewN_drewN _ _ _⟩
          have : ¬ l = m := fun h => hxy (HE.out.1 (by rw [h]))
          rw [decide_eq_false this]
          rfl
      · obtain rfl : k = l.length := by omega
        have he : l = m := by
          have := HS.out
          rwa [List.take_length, hlen, List.take_length] at this
        go_wp2
        go_ret
        refine ⟨?_, n, rfl⟩
        rw [decide_eq_true he]
        rfl
  · have hne : ¬ (l.length : Int) = (m.length : Int) := by omega
    have hlm : ¬ l = m := fun h => hlen (by rw [h])
    go_enter Tryz.func128, Tryz.ntmps128
    go_wp2
    go_ret
    refine ⟨?_, 0, rfl⟩
    rw [decide_eq_false hlm]
    rfl

/-! Same. -/
theorem wds_eq {g : Nat → Bool} (hf : ∀ b, n ≤ b → f b = false) (hg : ∀ b, n ≤ b → g b = false) (hK : n ≤ 64 * K) : wds f K = wds g K ↔ f = g := by
  constructor
  · intro h
    funext b
    by_cases hb : n ≤ b
    · rw [hf b hb, hg b hb]
    · have := congrArg (·[b / 64]?) h
      have hl : b / 64 < K := by omega
      simp only [wds, List.getElem?_map, List.getElem?_range hl, Option.map_some, Option.some.injEq] at this
      have := wd_inj this (b % 64) (Nat.mod_lt _ (by omega))
      rwa [show 64 * (b / 64) + b % 64 = b by omega] at this
  · rintro rfl
    rfl
end
end Bm
end Go.Proofs.YtleehhpodgbomaaGreatDoor
/- The document's map: a truth for each block: new, turned, counted, the next one. -/
namespace Go.Proofs.YtleehhpodgbomaaGreatDoor
open Go.RowKit Go.MapKept
namespace Bm
open Pack (Wds Nts)

theorem bool_info : (Tryz.prog.info? 4).map (fun i => (i.zero, i.size, i.bytes)) = some (some (.bool false), 1, 1) := by kernel_rfl
def bls (f : Nat → Bool) (n : Nat) : List Value := (List.range n).map fun k => .bool (f k)
theorem bls_len (f : Nat → Bool) (n : Nat) : (bls f n).length = n := by simp [bls]
theorem bls_get (f : Nat → Bool) (n i : Nat) (h : i < n) : (bls f n)[i]? = some (.bool (f i)) := by simp [bls, h]
theorem bls_one (f : Nat → Bool) (n : Nat) : ∀ u ∈ bls f n, u.oneCell' = true := by
  intro u hu
  obtain ⟨x, _, rfl⟩ := List.mem_map.1 hu
  rfl
theorem Row.bls {w : World} {g q n : Nat} {f : Nat → Bool} (h : Row w g 4 n (fun k => .bool (f k))) (hq : g ≠ q) : Bls w q (some ⟨g, 0, none⟩) n f :=
  ⟨fun j hj => ⟨g, 0, rfl, h.lt, hq, by rw [Nat.zero_add]; exact h.cell hj⟩⟩

section
variable {w : World} {q n : Nat} {f : Nat → Bool}
/-- a truth turned -/
def Trn (w : World) (q n : Nat) (is : Bool) (f : Nat → Bool) (b : Int) (e : Ending) (w' : World) : Prop :=
  ∃ (A : Option Addr) (c : Nat), e = .returned (.tuple #[.slice A n c, .bool (trd n is f b)]) ∧ Bls w' q A n (trn n is f b) ∧ Below w.heap.size w w'

end
end Bm
end Go.Proofs.YtleehhpodgbomaaGreatDoor
/- The document's words of a map; whether a map is the document's. -/
namespace Go.Proofs.YtleehhpodgbomaaGreatDoor
open Go.RowKit Go.MapKept
namespace Bm
open Pack (Wds Nts)

/-- those of f ahead of k -/
def lo (f : Nat → Bool) (k x : Nat) : Bool := f x && decide (x < k)
theorem lo_none (f : Nat → Bool) (j : Nat) : wd (lo f 0) j = 0 := by
  apply Nat.eq_of_testBit_eq
  intro i
  rw [wd_bit]
  simp [lo]
theorem lo_same {f : Nat → Bool} {k : Nat} (h : f k = false) : lo f (k + 1) = lo f k := by
  funext x
  unfold lo
  by_cases e : x = k
  · subst e; simp [h]
  · have : decide (x < k + 1) = decide (x < k) := by rw [decide_eq_decide]; omega
    rw [this]
theorem lo_more {f : Nat → Bool} {k : Nat} (h : f k = true) : lo f (k + 1) = upd (lo f k) k true := by
  funext x
  unfold upd lo
  by_cases e : x = k
  · subst e; simp [h]
  · rw [if_neg e]
    have : decide (x < k + 1) = decide (x < k) := by rw [decide_eq_decide]; omega
    rw [this]
theorem lo_lt (f : Nat → Bool) (k : Nat) : wd (lo f k) (k / 64) < 2 ^ (k % 64) := by
  apply Nat.lt_pow_two_of_testBit
  intro i hi
  rw [wd_bit]
  unfold lo
  have : ¬ 64 * (k / 64) + i < k := by omega
  simp [this]
theorem lo_add {f : Nat → Bool} {k : Nat} (h : f k = true) : wd (lo f k) (k / 64) + 2 ^ (k % 64) = wd (lo f (k + 1)) (k / 64) := by
  rw [lo_more h, ← wd_or]
  have := Nat.two_pow_add_eq_or_of_lt (lo_lt f k) 1
  rw [Nat.mul_one] at this
  rw [Nat.add_comm, this, Nat.or_comm]
theorem lo_other {f : Nat → Bool} {k j : Nat} (h : j ≠ k / 64) : wd (lo f (k + 1)) j = wd (lo f k) j := by
  apply wd_congr
  intro i hi
  unfold lo
  have : decide (64 * j + i < k + 1) = decide (64 * j + i < k) := by rw [decide_eq_decide]; omega
  rw [this]
theorem lo_all (f : Nat → Bool) (n : Nat) (h : ∀ b, n ≤ b → f b = false) : lo f n = f := by
  funext x
  unfold lo
  by_cases hx : x < n
  · simp [hx]
  · rw [h x (by omega)]; rfl

section
variable {w : World} {q n : Nat} {f : Nat → Bool}
end
end Bm
end Go.Proofs.YtleehhpodgbomaaGreatDoor
/- Whether a map is the document's: it is, where both have the same blocks; the chapter's example. -/
namespace Go.Proofs.YtleehhpodgbomaaGreatDoor
open Go.RowKit Go.MapKept
namespace Bm
open Pack (Wds Nts)

theorem below_drewN {B : Nat} {a w : World} (h : Below B a w) (n : Nat) : Below B a (w.drewN n) := ⟨h.os, h.tape, h.output, h.size, h.block⟩
theorem Bls.drewN {w : World} {q n : Nat} {A : Option Addr} {f : Nat → Bool} (h : Bls w q A n f) (k : Nat) : Bls (w.drewN k) q A n f := ⟨h.at'⟩

section
variable {w : World} {p q r K C n : Nat} {f : Nat → Bool}
/-! The example. -/
theorem nts_cells (w : World) (l : List Int) (hb : ∀ x ∈ l, -9223372036854775808 ≤ x ∧ x ≤ 9223372036854775807) (hl : l.length ≤ 1000) (hq : q < w.heap.size) : ∀ w', Chg q (w.alloc (.cells (l.map (Value.int .i64)).toArray 3)) w' → Nts w' (some ⟨w.heap.size, 0, none⟩) l := fun w' hc =>
  ⟨hb, by omega, fun j hj => by
    refine ⟨w.heap.size, 0, rfl, Nat.lt_of_lt_of_le (by simp) hc.size, ?_⟩
    rw [hc.cell (p := ⟨w.heap.size, 0 + j, none⟩) (by simp) (by simp; omega)]
    refine (Pack.alloc_cell _ _ _ _).trans ?_
    simp [hj]⟩
theorem wds_cells (w : World) : Wds (w.alloc (.cells #[.int .u64 1, .int .u64 2] 71)) (some ⟨w.heap.size, 0, none⟩) [1, 2] :=
  ⟨fun x hx => by
    have : x = 1 ∨ x = 2 := by simpa using hx
    omega, by decide, fun j hj => by
    have : j < 2 := hj
    match j, this with
    | 0, _ => exact ⟨w.heap.size, 0, rfl, by simp, Pack.alloc_cell _ _ _ _⟩
    | 1, _ => exact ⟨w.heap.size, 0, rfl, by simp, Pack.alloc_cell _ _ _ _⟩⟩
def ex : Nat → Bool := (tn 70 true (fun _ => false) [0, 65, 70]).1
theorem ex_two : (tn 70 true (fun _ => false) [0, 65, 70]).2 = 2 := by decide +kernel
theorem ex_words : wds ex 2 = [1, 2] := by decide +kernel
theorem ex_next : next ex true 70 1 = 65 := by decide +kernel
theorem ex_free : next ex false 70 0 = 1 := by decide +kernel

set_option maxRecDepth 100000 in
set_option maxHeartbeats 2000000 in
theorem lives_any (w : World) (hT : Tab w) : Calls Tryz.prog 44 #[] w fun e w' => e = .returned (.bool true) ∧ Below w.heap.size w w' := by
  have hlt := hT.lt
  have HT := Lib.hid hT
  have HN := Lib.hid (new_any 70 70 2 (by decide) (by decide) w)
  have HPL := Lib.hid (fun w => Pack.lives_any w)
  clear hT
  go_enter Tryz.func44, Tryz.ntmps44
  go_wp2_with fail
  refine HN.out.mono ?_
  rintro e w1 ⟨rfl, hM, hb1⟩
  have HM := Lib.hid hM
  have HB := Lib.hid hb1
  clear hM hb1
  go_wp2_with fail
  refine (HPL.out _).mono ?_
  rintro e w2 ⟨rfl, hb2⟩
  have HM2 := Lib.hid (HM.out.keep hb2)
  have HB2 := Lib.hid (HB.out.trans (hb2.mono HB.out.size))
  have hsz : w.heap.size < w2.heap.size := HM2.out.row.lt
  clear hb2
  have hmA := HM2.out.keep ((Below.refl _ _).alloc (Nat.le_refl _) (.cells #[.int .i64 0, .int .i64 65, .int .i64 70] 3))
  have hput := put_any hmA (some ⟨w2.heap.size, 0, none⟩) 3 [0, 65, 70] (nts_cells w2 [0, 65, 70] (by intro x hx; simp at hx; omega) (by decide) HM2.out.row.lt)
  rw [ex_two] at hput
  have HP := Lib.hid (show Calls Tryz.prog 45 #[.pointer (some ⟨w.heap.size + 1, 0, none⟩), .slice (some ⟨w2.heap.size, 0, none⟩) 3 3] (w2.alloc (.cells #[.int .i64 0, .int .i64 65, .int .i64 70] 3)) fun e w' => e = .returned (.int .i64 2) ∧ Mp w' (w.heap.size + 1) w.heap.size 2 2 70 ex ∧ Chg w.heap.size (w2.alloc (.cells #[.int .i64 0, .int .i64 65, .int .i64 70] 3)) w' from hput)
  clear hmA hput
  go_wp2_with fail
  refine HP.out.mono ?_
  rintro e w3 ⟨rfl, hM3, hC3⟩
  have HM3 := Lib.hid hM3
  have HC3 := Lib.hid (((Chg.refl w.heap.size w2).alloc _).trans hC3)
  have HB3 := Lib.hid (HB2.out.trans (HC3.out.below (Nat.le_of_lt hsz) (Nat.le_refl _)))
  clear hM3 hC3
  go_wp2_with fail
  refine (words_any HM3.out).mono ?_
  rintro e w4 ⟨g, gc, rfl, _, hg, hrow, hb4⟩
  have HM4 := Lib.hid (HM3.out.keep hb4)
  have HB4 := Lib.hid (HB3.out.trans (hb4.mono HB3.out.size))
  have hwd := hrow.wds (by decide)
  rw [ex_words] at hwd
  have hba := (Below.refl w4.heap.size w4).alloc (Nat.le_refl _) (.cells #[.int .u64 1, .int .u64 2] 71)
  have hsm := Pack.same_any (some ⟨g, 0, none⟩) (some ⟨w4.heap.size, 0, none⟩) gc 2 [1, 2] [1, 2] (hwd.keep hba) (wds_cells w4)
  rw [decide_eq_true rfl] at hsm
  have HSM := Lib.hid (show Calls Tryz.prog 73 #[.slice (some ⟨g, 0, none⟩) 2 gc, .slice (some ⟨w4.heap.size, 0, none⟩) 2 2] (w4.alloc (.cells #[.int .u64 1, .int .u64 2] 71)) fun e w' => e = .returned (.bool true) ∧ ∃ n, w' = (w4.alloc (.cells #[.int .u64 1, .int .u64 2] 71)).drewN n from hsm)
  have HBA := Lib.hid hba
  clear hg hrow hb4 hwd hsm hba
  go_wp2_with fail
  refine HSM.out.mono ?_
  rintro e w5 ⟨rfl, k5, hw5⟩
  have hb5 : Below w4.heap.size w4 w5 := by rw [hw5]; exact below_drewN HBA.out k5
  have HM5 := Lib.hid (HM4.out.keep hb5)
  have HB5 := Lib.hid (HB4.out.trans (hb5.mono HB4.out.size))
  have hT5 := HT.out.below HB5.out hlt
  have hn1 := next_any HM5.out hT5 1 true (by decide)
  have hn2 := next_any HM5.out hT5 0 false (by decide)
  rw [show (1 : Int).toNat = 1 from rfl, ex_next] at hn1
  rw [show (0 : Int).toNat = 0 from rfl, ex_free] at hn2
  have HN1 := Lib.hid hn1
  have HN2 := Lib.hid hn2
  clear hw5 hb5 hT5 hn1 hn2
  go_wp2_with fail
  refine HN1.out.mono ?_
  rintro e w6 ⟨rfl, rfl⟩
  go_wp2_with fail
  refine HN2.out.mono ?_
  rintro e w6 ⟨rfl, rfl⟩
  go_wp2
  go_ret
  exact ⟨rfl, HB5.out⟩
end
end Bm
end Go.Proofs.YtleehhpodgbomaaGreatDoor
/- A map of words. -/
namespace Go.Proofs.YtleehhpodgbomaaGreatDoor
open Go.RowKit Go.MapKept
namespace Bm
open Pack (Wds Nts)

/-- whether a bit of words is 1 -/
def bitAt (l : List Nat) (i : Nat) : Bool := (l.getD (i / 64) 0).testBit (i % 64)
/-- the blocks that words tell -/
def fo (n : Nat) (l : List Nat) (b : Nat) : Bool := decide (b < n) && bitAt l b
/-- no bit beyond n blocks is 1 -/
def Good (n : Nat) (l : List Nat) : Prop := ∀ i, n ≤ i → i < 64 * l.length → bitAt l i = false

theorem fo_far (n : Nat) (l : List Nat) : ∀ b, n ≤ b → fo n l b = false := fun b hb => by
  unfold fo
  rw [decide_eq_false (by omega)]
  rfl
theorem Good.words {n : Nat} {l : List Nat} (h : Good n l) (hu : ∀ x ∈ l, x < 18446744073709551616) (j : Nat) (hj : j < l.length) : l[j] = wd (fo n l) j := by
  apply is_wd
  intro i
  by_cases hi : i < 64
  · have e : bitAt l (64 * j + i) = l[j].testBit i := by
      unfold bitAt
      rw [show (64 * j + i) / 64 = j by omega, show (64 * j + i) % 64 = i by omega, List.getD_eq_getElem?_getD, List.getElem?_eq_getElem hj, Option.getD_some]
    unfold fo
    by_cases hb : 64 * j + i < n
    · simp [hi, hb, e]
    · have := h (64 * j + i) (by omega) (by omega)
      rw [e] at this
      simp [hb, this]
  · have : l[j].testBit i = false := Nat.testBit_lt_two_pow (Nat.lt_of_lt_of_le (hu _ (List.getElem_mem hj)) (Nat.pow_le_pow_right (n := 2) (i := 64) (by omega) (by omega)))
    simp [hi, this]
theorem Good.wds {n : Nat} {l : List Nat} (h : Good n l) (hu : ∀ x ∈ l, x < 18446744073709551616) : wds (fo n l) l.length = l := by
  apply List.ext_getElem
  · rw [wds_len]
  · intro j h1 h2
    rw [wds_get, ← h.words hu j h2]
/-- the last word's bits beyond n -/
theorem good_last {n K : Nat} {l : List Nat} (hK : K = (n + 63) / 64) (hl : l.length = K) (hr : n % 64 ≠ 0) : Good n l ↔ l.getD (K - 1) 0 / 2 ^ (n % 64) = 0 ∨ ¬ l.getD (K - 1) 0 < 18446744073709551616 ∧ Good n l := by
  constructor
  · intro h
    by_cases hx : l.getD (K - 1) 0 < 18446744073709551616
    · refine .inl (Nat.div_eq_of_lt ?_)
      apply Nat.lt_pow_two_of_testBit
      intro i hi
      by_cases h64 : i < 64
      · have := h (64 * (K - 1) + i) (by omega) (by omega)
        unfold bitAt at this
        rwa [show (64 * (K - 1) + i) / 64 = K - 1 by omega, show (64 * (K - 1) + i) % 64 = i by omega] at this
      · exact Nat.testBit_lt_two_pow (Nat.lt_of_lt_of_le hx (Nat.pow_le_pow_right (n := 2) (i := 64) (by omega) (by omega)))
    · exact .inr ⟨hx, h⟩
  · rintro (h | ⟨_, h⟩)
    · intro i h1 h2
      unfold bitAt
      have e : i / 64 = K - 1 := by omega
      rw [e]
      have hlt : l.getD (K - 1) 0 < 2 ^ (n % 64) := by
        rcases Nat.lt_or_ge (l.getD (K - 1) 0) (2 ^ (n % 64)) with g | g
        · exact g
        · have := Nat.div_pos g (Nat.pow_pos (by omega))
          omega
      exact Nat.testBit_lt_two_pow (Nat.lt_of_lt_of_le hlt (Nat.pow_le_pow_right (n := 2) (by omega) (by omega)))
    · exact h
theorem good_even {n K : Nat} {l : List Nat} (hK : K = (n + 63) / 64) (hl : l.length = K) (hr : n % 64 = 0) : Good n l := fun i h1 h2 => by omega

section
variable {w : World}
/-- whether words are a map's -/
def Ok (n : Int) (l : List Nat) : Prop := 0 ≤ n ∧ n ≤ 65534 ∧ (l.length : Int) = (n + 63) / 64 ∧ Good n.toNat l
/-- what Of answers -/
def OfR (w : World) (n : Nat) (l : List Nat) (e : Ending) (w' : World) : Prop :=
  ∃ p q C : Nat, e = .returned (.tuple #[.pointer (some ⟨p, 0, none⟩), .int .i64 0]) ∧ w.heap.size ≤ p ∧ w.heap.size ≤ q ∧ Mp w' p q l.length C n (fo n l) ∧ Below w.heap.size w w'

end
end Bm
end Go.Proofs.YtleehhpodgbomaaGreatDoor
/- The document's map of words. -/
namespace Go.Proofs.YtleehhpodgbomaaGreatDoor
open Go.RowKit Go.MapKept
namespace Bm
open Pack (Wds Nts)

theorem bls_step (f : Nat → Bool) (t : Nat) : bls f (t + 1) = bls f t ++ [.bool (f t)] := by
  unfold bls
  rw [List.range_succ, List.map_append]
  rfl
theorem own_bls {W : World} {B n c q : Nat} {G : Option Addr} {f : Nat → Bool} (h : W.ownsRow B 4 1 (.slice G n c) n (bls f n)) (hq : q < B) : Bls W q G n f :=
  ⟨fun j hj => by
    rcases h.2 with ⟨e, h0⟩ | ⟨g, cap, cur, e, hg, hh, _, _, _, ht⟩
    · omega
    · injection e with e
      subst e
      refine ⟨g, 0, rfl, (Array.getElem?_eq_some_iff.1 hh).1, by omega, ?_⟩
      have := congrArg (·[j]?) ht
      simp only [Nat.mul_one] at this
      rw [List.getElem?_take, if_pos hj, bls_get f n j hj] at this
      unfold World.cell?
      rw [hh, Nat.zero_add]
      simp only
      rw [← Array.getElem?_toList]
      exact this⟩

/-- what the document's Of answers of words of the right count -/
def RefR (w : World) (q n : Nat) (l : List Nat) (e : Ending) (w' : World) : Prop :=
  (Good n l ∧ ∃ (A : Option Addr) (c : Nat), e = .returned (.tuple #[.slice A n c, .bool true]) ∧ Bls w' q A n (fo n l) ∧ Below w.heap.size w w') ∨
  (¬ Good n l ∧ e = .returned (.tuple #[.slice none 0 0, .bool false]) ∧ Below w.heap.size w w')

section
variable {w : World}
theorem bit_and (x r : Nat) (hx : x < 18446744073709551616) : bits BinOp.and IntKind.u64 ((x : Int) / 2 ^ r) 1 = ((if x.testBit r then 1 else 0 : Nat) : Int) := by
  rw [show (x : Int) / 2 ^ r = ((x / 2 ^ r : Nat) : Int) by simp]
  have hl : x / 2 ^ r < 18446744073709551616 := Nat.lt_of_le_of_lt (Nat.div_le_self _ _) hx
  have := u64_and_nat (x / 2 ^ r) 1 hl (by decide)
  rw [show (1 : Int) = ((1 : Nat) : Int) from rfl, this, nat_mask1, Nat.testBit_eq_decide_div_mod_eq]
  have h2 : x / 2 ^ r % 2 = 0 ∨ x / 2 ^ r % 2 = 1 := by omega
  rcases h2 with h | h <;> simp [h]

end
end Bm
end Go.Proofs.YtleehhpodgbomaaGreatDoor
/- Where the parts of a geometry stand, as numbers. -/
namespace Go.Proofs.YtleehhpodgbomaaGreatDoor
namespace Geo

/-- a block's bytes that may be -/
def Sz (s : Int) : Prop := s = 64 ∨ s = 128 ∨ s = 256 ∨ s = 512 ∨ s = 1024 ∨ s = 2048 ∨ s = 4096
instance (s : Int) : Decidable (Sz s) := by unfold Sz; infer_instance
/-- numbers that may be -/
def Num (n m s : Int) : Prop := (1 ≤ n ∧ n ≤ 65534) ∧ (1 ≤ m ∧ m ≤ 65534) ∧ Sz s
instance (n m s : Int) : Decidable (Num n m s) := by unfold Num; infer_instance
/-- so many words, and those that fill the line -/
def lines (c : Int) : Int := (c + 7) / 8 * 8
/-- where the bitmap begins -/
def bmAt (n m : Int) : Int := 16 + m * 8 + lines n
/-- where the blocks begin -/
def bkAt (n m : Int) : Int := bmAt n m + lines ((n + 63) / 64)
/-- where they end -/
def fin (n m s : Int) : Int := bkAt n m + n * (s / 8)
/-- whether it may be -/
def may (n m s : Int) : Bool := decide (Num n m s ∧ fin n m s ≤ 4194304)
/-- how many parts of a length hold so many -/
def prt (c e : Int) : Int := c / e + if c % e = 0 then 0 else 1

theorem prt8 (c : Int) : prt c 8 * 8 = lines c := by
  unfold prt lines
  split <;> omega
theorem prt64 (c : Int) : prt c 64 = (c + 63) / 64 := by
  unfold prt
  split <;> omega
theorem Sz.bounds {s : Int} (h : Sz s) : 64 ≤ s ∧ s ≤ 4096 ∧ 8 ≤ s / 8 ∧ s / 8 ≤ 512 ∧ s / 8 * 8 = s := by
  rcases h with rfl | rfl | rfl | rfl | rfl | rfl | rfl <;> decide
theorem bm_bounds {n m : Int} (h1 : 1 ≤ n ∧ n ≤ 65534) (h2 : 1 ≤ m ∧ m ≤ 65534) : 16 + m * 8 + n ≤ bmAt n m ∧ bmAt n m ≤ 16 + m * 8 + n + 7 ∧ bmAt n m ≤ 600000 ∧ bmAt n m % 8 = 0 := by
  unfold bmAt lines
  omega
theorem bk_bounds {n m : Int} (h1 : 1 ≤ n ∧ n ≤ 65534) (h2 : 1 ≤ m ∧ m ≤ 65534) : bmAt n m + (n + 63) / 64 ≤ bkAt n m ∧ bkAt n m ≤ bmAt n m + (n + 63) / 64 + 7 ∧ bkAt n m ≤ 610000 ∧ bkAt n m % 8 = 0 ∧ 0 ≤ bkAt n m := by
  have := bm_bounds h1 h2
  unfold bkAt lines
  omega
theorem mul_bounds {i q a b : Int} (h1 : 0 ≤ i) (h2 : i ≤ a) (h3 : 0 ≤ q) (h4 : q ≤ b) : 0 ≤ i * q ∧ i * q ≤ a * b :=
  ⟨Int.mul_nonneg h1 h3, Int.mul_le_mul h2 h4 h3 (Int.le_trans h1 h2)⟩
theorem fin_bounds {n m s : Int} (h1 : 1 ≤ n ∧ n ≤ 65534) (h2 : 1 ≤ m ∧ m ≤ 65534) (h3 : Sz s) : 0 ≤ fin n m s ∧ fin n m s ≤ 40000000 ∧ 0 ≤ n * (s / 8) ∧ n * (s / 8) ≤ 33553408 := by
  have hs := h3.bounds
  have h4 := mul_bounds (i := n) (a := 65534) (q := s / 8) (b := 512) (by omega) (by omega) (by omega) (by omega)
  have h5 := bk_bounds h1 h2
  unfold fin
  omega
theorem may_num {n m s : Int} (h : may n m s = true) : Num n m s ∧ fin n m s ≤ 4194304 := of_decide_eq_true h
theorem may_yes {n m s : Int} (h : Num n m s ∧ fin n m s ≤ 4194304) : may n m s = true := decide_eq_true h
theorem may_no {n m s : Int} (h : ¬ (Num n m s ∧ fin n m s ≤ 4194304)) : may n m s = false := decide_eq_false h
theorem may_neg {n m s : Int} (h : may n m s = false) : ¬ (Num n m s ∧ fin n m s ≤ 4194304) := of_decide_eq_false h

theorem prt_bounds {c e : Int} (h : 0 ≤ c) (he : 0 < e) : 0 ≤ c / e ∧ c / e ≤ c := ⟨Int.ediv_nonneg h (by omega), Int.ediv_le_self _ h⟩

theorem and_size' : ∀ (a : Fin 65) (b : Fin 64), (Nat.land (64 * a.val + b.val) (64 * a.val + b.val - 1) = 0 ↔ 64 * a.val + b.val < 64 ∧ Nat.land b.val (b.val - 1) = 0 ∨ (64 * a.val + b.val = 64 ∨ 64 * a.val + b.val = 128 ∨ 64 * a.val + b.val = 256 ∨ 64 * a.val + b.val = 512 ∨ 64 * a.val + b.val = 1024 ∨ 64 * a.val + b.val = 2048 ∨ 64 * a.val + b.val = 4096)) := by decide +kernel
end Geo
end Go.Proofs.YtleehhpodgbomaaGreatDoor
/- The program's small steps: a number within bounds, a block's bytes that may be, parts and lines. -/
namespace Go.Proofs.YtleehhpodgbomaaGreatDoor
open Go.RowKit Go.MapKept
namespace Geo

/-- a number that an int holds -/
def I64 (n : Int) : Prop := -9223372036854775808 ≤ n ∧ n ≤ 9223372036854775807

theorem within_any (w : World) (n a b : Int) :
    Calls Tryz.prog 134 #[.int .i64 n, .int .i64 a, .int .i64 b] w fun e w' => e = .returned (.bool (decide (a ≤ n ∧ n ≤ b))) ∧ w = w' := by
  go_enter Tryz.func134, Tryz.ntmps134
  go_wp2
  · rename_i h
    go_ret
    exact ⟨by simp [h], rfl⟩
  · rename_i h
    go_ret
    refine ⟨?_, rfl⟩
    have : ¬ a ≤ n := by omega
    simp [this]

theorem size_bits (s : Int) (h1 : 64 ≤ s) (h2 : s ≤ 4096) : (bits .and .i64 s (s - 1) = 0) ↔ Sz s := by
  obtain ⟨k, rfl⟩ := Int.eq_ofNat_of_zero_le (show 0 ≤ s by omega)
  have hk : k < 4097 := by omega
  have e1 : (BitVec.ofInt 64 (k : Int)).toNat = k := by rw [BitVec.ofInt_natCast, BitVec.toNat_ofNat]; exact Nat.mod_eq_of_lt (by omega)
  have e2 : (BitVec.ofInt 64 ((k : Int) - 1)).toNat = k - 1 := by
    have : ((k : Int) - 1) = ((k - 1 : Nat) : Int) := by omega
    rw [this, BitVec.ofInt_natCast, BitVec.toNat_ofNat]; exact Nat.mod_eq_of_lt (by omega)
  have e : bits .and .i64 (k : Int) ((k : Int) - 1) = ((Nat.land k (k - 1) : Nat) : Int) := by
    show IntKind.i64.wrap ((BitVec.ofInt 64 (k : Int) &&& BitVec.ofInt 64 ((k : Int) - 1)).toNat : Int) = _
    rw [BitVec.toNat_and, e1, e2]
    have hl : k &&& (k - 1) ≤ k := Nat.and_le_left
    have hl' : Nat.land k (k - 1) = k &&& (k - 1) := rfl
    rw [hl', IntKind.wrap_i64]
    omega
  rw [e]
  have ha := and_size' ⟨k / 64, by omega⟩ ⟨k % 64, by omega⟩
  have hq : 64 * (k / 64) + k % 64 = k := by omega
  simp only [hq] at ha
  unfold Sz
  constructor
  · intro h
    have h' : Nat.land k (k - 1) = 0 := by omega
    rcases ha.1 h' with h | h
    · omega
    · omega
  · intro h
    have := ha.2 (.inr (by omega))
    omega

theorem size_any (w : World) (s : Int) :
    Calls Tryz.prog 138 #[.int .i64 s] w fun e w' => e = .returned (.bool (decide (Sz s))) ∧ w = w' := by
  have HW := Lib.hid (within_any w s 64 4096)
  by_cases h : 64 ≤ s ∧ s ≤ 4096
  · obtain ⟨h1, h2⟩ := h
    have HS := Lib.hid (size_bits s h1 h2)
    go_enter Tryz.func138, Tryz.ntmps138
    go_wp2_with fail
    refine HW.out.mono ?_
    rintro e w' ⟨rfl, rfl⟩
    rw [decide_eq_true (show 64 ≤ s ∧ s ≤ 4096 from ⟨h1, h2⟩)]
    go_wp2
    go_ret
    refine ⟨?_, rfl⟩
    have := HS.out
    by_cases hz : Sz s
    · rw [decide_eq_true hz, this.2 hz]; rfl
    · rw [decide_eq_false hz]
      have h0 : ¬ bits .and .i64 s (s - 1) = 0 := fun h => hz (this.1 h)
      simp [h0]
  · have hn : ¬ Sz s := fun h' => h ⟨h'.bounds.1, h'.bounds.2.1⟩
    go_enter Tryz.func138, Tryz.ntmps138
    go_wp2_with fail
    refine HW.out.mono ?_
    rintro e w' ⟨rfl, rfl⟩
    rw [decide_eq_false h]
    go_wp2
    go_ret
    exact ⟨by rw [decide_eq_false hn]; rfl, rfl⟩

/-- parts of what there is -/
theorem parts_any (w : World) (c e : Int) (h0 : 0 ≤ c) (h1 : c ≤ 9223372036854775807) (he2 : 2 ≤ e) :
    Calls Tryz.prog 151 #[.int .i64 c, .int .i64 e] w fun r w' => r = .returned (.int .i64 (prt c e)) ∧ w = w' := by
  have hq := prt_bounds h0 (show 0 < e by omega)
  have hq2 : c / e ≤ 4611686018427387903 := by
    have h2 : c / e * e ≤ c := Int.ediv_mul_le c (by omega)
    have h3 : c / e * 2 ≤ c / e * e := Int.mul_le_mul_of_nonneg_left he2 hq.1
    omega
  by_cases hz : c % e = 0
  · go_enter Tryz.func151, Tryz.ntmps151
    go_wp2
    go_ret
    exact ⟨by unfold prt; rw [if_pos hz]; simp, rfl⟩
  · go_enter Tryz.func151, Tryz.ntmps151
    go_wp2
    go_ret
    exact ⟨by unfold prt; rw [if_neg hz]; rfl, rfl⟩

/-- parts of whatever number -/
theorem parts_some (w : World) (c e : Int) (h : I64 c) (he : e = 8 ∨ e = 64) :
    Calls Tryz.prog 151 #[.int .i64 c, .int .i64 e] w fun r w' => (∃ v, r = .returned (.int .i64 v) ∧ I64 v) ∧ w = w' := by
  obtain ⟨h1, h2⟩ := h
  by_cases h0 : 0 ≤ c
  · refine (parts_any w c e h0 h2 (by omega)).mono ?_
    rintro r w' ⟨rfl, rfl⟩
    refine ⟨⟨_, rfl, ?_⟩, rfl⟩
    unfold I64 prt
    rcases he with rfl | rfl <;> (split <;> omega)
  · have hd : -9223372036854775808 ≤ c.tdiv e ∧ c.tdiv e ≤ 0 := by
      obtain ⟨k, rfl⟩ : ∃ k : Nat, c = -(k : Int) := ⟨(-c).toNat, by omega⟩
      rw [Int.neg_tdiv]
      rcases he with rfl | rfl
      · have : ((k : Int)).tdiv 8 = (k : Int) / 8 := Int.tdiv_eq_ediv_of_nonneg (by omega)
        omega
      · have : ((k : Int)).tdiv 64 = (k : Int) / 64 := Int.tdiv_eq_ediv_of_nonneg (by omega)
        omega
    have he1 : 1 ≤ e := by omega
    have he2 : ¬ e = 0 := by omega
    clear he
    go_enter Tryz.func151, Tryz.ntmps151
    go_wp2
    · go_ret
      exact ⟨⟨_, rfl, by unfold I64; omega⟩, rfl⟩
    · go_ret
      exact ⟨⟨_, rfl, by unfold I64; omega⟩, rfl⟩

theorem filled_any (w : World) (c : Int) (h0 : 0 ≤ c) (h1 : c ≤ 1000000) :
    Calls Tryz.prog 150 #[.int .i64 c] w fun r w' => r = .returned (.int .i64 (lines c)) ∧ w = w' := by
  have HP := Lib.hid (parts_any w c 8 h0 (by omega) (by omega))
  have HE := Lib.hid (prt8 c)
  have hb : 0 ≤ prt c 8 ∧ prt c 8 ≤ 1000000 := by unfold prt; split <;> omega
  go_enter Tryz.func150, Tryz.ntmps150
  go_wp2_with fail
  refine HP.out.mono ?_
  rintro e w' ⟨rfl, rfl⟩
  go_wp2
  go_ret
  exact ⟨by rw [← HE.out]; rfl, rfl⟩

theorem i64_wrap (x : Int) : I64 (IntKind.i64.wrap x) := by
  unfold I64
  rw [IntKind.wrap_i64]
  omega

theorem filled_some (w : World) (c : Int) (h : I64 c) :
    Calls Tryz.prog 150 #[.int .i64 c] w fun r w' => (∃ v, r = .returned (.int .i64 v) ∧ I64 v) ∧ w = w' := by
  have HP := Lib.hid (parts_some w c 8 h (.inl rfl))
  go_enter Tryz.func150, Tryz.ntmps150
  go_wp2_with fail
  refine HP.out.mono ?_
  rintro e w' ⟨⟨v, rfl, hv⟩, rfl⟩
  go_wp2
  go_ret
  exact ⟨⟨_, rfl, by unfold I64 wrap64; omega⟩, rfl⟩
end Geo
end Go.Proofs.YtleehhpodgbomaaGreatDoor
/- Where the parts begin, and where the last one ends. -/
namespace Go.Proofs.YtleehhpodgbomaaGreatDoor
open Go.RowKit Go.MapKept
namespace Geo

theorem blockWords_any (w : World) (n m s : Int) (h : 0 ≤ s) (h2 : s ≤ 9223372036854775807) :
    Calls Tryz.prog 145 #[.agg #[.int .i64 n, .int .i64 m, .int .i64 s]] w fun r w' => r = .returned (.int .i64 (s / 8)) ∧ Below w.heap.size w w' := by
  go_enter Tryz.func145, Tryz.ntmps145
  go_wp2
  go_ret
  exact ⟨rfl, (Below.refl _ _).alloc (Nat.le_refl _) _⟩

theorem bitWords_any (w : World) (n m s : Int) (h : 0 ≤ n) (h2 : n ≤ 9223372036854775807) :
    Calls Tryz.prog 143 #[.agg #[.int .i64 n, .int .i64 m, .int .i64 s]] w fun r w' => r = .returned (.int .i64 ((n + 63) / 64)) ∧ Below w.heap.size w w' := by
  have HE := Lib.hid (prt64 n)
  go_enter Tryz.func143, Tryz.ntmps143
  go_wp2_with (go_at_call 151; refine (parts_any _ _ _ h h2 (by decide)).mono ?_; rintro e w' ⟨rfl, rfl⟩)
  go_ret
  exact ⟨by rw [← HE.out]; rfl, (Below.refl _ _).alloc (Nat.le_refl _) _⟩

theorem slotsAt_any (w : World) (n m s : Int) (h : 0 ≤ m) (h2 : m ≤ 1000000) :
    Calls Tryz.prog 62 #[.agg #[.int .i64 n, .int .i64 m, .int .i64 s]] w fun r w' => r = .returned (.int .i64 (16 + m * 8)) ∧ Below w.heap.size w w' := by
  go_enter Tryz.func62, Tryz.ntmps62
  go_wp2
  go_ret
  exact ⟨rfl, (Below.refl _ _).alloc (Nat.le_refl _) _⟩

/-- a geometry lies in block b -/
structure Box (w : World) (b : Nat) (n m s : Int) : Prop where
  lt : b < w.heap.size
  c0 : w.cell? ⟨b, 0, none⟩ = some (.int .i64 n)
  c1 : w.cell? ⟨b, 1, none⟩ = some (.int .i64 m)
  c2 : w.cell? ⟨b, 2, none⟩ = some (.int .i64 s)
theorem Box.keep {w w' : World} {b : Nat} {n m s : Int} (h : Box w b n m s) (hb : Below w.heap.size w w') : Box w' b n m s :=
  ⟨Nat.lt_of_lt_of_le h.lt hb.size, (hb.cell (p := ⟨b, 0, none⟩) h.lt).trans h.c0, (hb.cell (p := ⟨b, 1, none⟩) h.lt).trans h.c1, (hb.cell (p := ⟨b, 2, none⟩) h.lt).trans h.c2⟩
theorem Box.drew {w : World} {b : Nat} {n m s : Int} (h : Box w b n m s) : Box w.drew b n m s := ⟨h.lt, h.c0, h.c1, h.c2⟩
theorem boxed (w : World) (n m s : Int) (t : TypeId) : Box (w.alloc (.cells #[.int .i64 n, .int .i64 m, .int .i64 s] t)) w.heap.size n m s :=
  ⟨by simp, World.cell?_alloc_mark w _ t _ 0, World.cell?_alloc_mark w _ t _ 1, World.cell?_alloc_mark w _ t _ 2⟩

set_option maxHeartbeats 1000000 in
theorem bitmapAt_any (w : World) (n m s : Int) (h1 : 1 ≤ n ∧ n ≤ 65534) (h2 : 1 ≤ m ∧ m ≤ 65534) :
    Calls Tryz.prog 142 #[.agg #[.int .i64 n, .int .i64 m, .int .i64 s]] w fun r w' => r = .returned (.int .i64 (bmAt n m)) ∧ Below w.heap.size w w' := by
  have hl : 0 ≤ lines n ∧ lines n ≤ 70000 := by unfold lines; omega
  have HS := Lib.hid (fun w => slotsAt_any w n m s (by omega) (by omega))
  have HF := Lib.hid (fun w => filled_any w n (by omega) (by omega))
  have HW := Lib.hid (show IntKind.i64.wrap (16 + m * 8 + lines n) = bmAt n m from IntWalk.i64_in _ (by omega))
  have HX := Lib.hid (boxed w n m s 80)
  have HB := Lib.hid ((Below.refl w.heap.size w).alloc (Nat.le_refl _) (.cells #[.int .i64 n, .int .i64 m, .int .i64 s] 80))
  go_enter Tryz.func142, Tryz.ntmps142
  go_wp2
  generalize w.alloc (.cells #[.int .i64 n, .int .i64 m, .int .i64 s] 80) = W at *
  have hc0 := HX.out.c0
  have hc1 := HX.out.c1
  have hc2 := HX.out.c2
  go_region_held3 (fun W' => W'.cell? ⟨w.heap.size, 0, none⟩ = some (.int .i64 n) ∧ W'.cell? ⟨w.heap.size, 1, none⟩ = some (.int .i64 m) ∧ W'.cell? ⟨w.heap.size, 2, none⟩ = some (.int .i64 s)) (go_keep)
    (first
    | (go_at_call 62
       with_reducible refine (HS.out _).mono ?_
       rintro e w1 ⟨rfl, hb⟩
       have HY := Lib.hid (HX.out.drew.keep hb)
       have hk0 := HY.out.c0
       have hk1 := HY.out.c1
       have hk2 := HY.out.c2
       have HB1 := Lib.hid (HB.out.drew.trans (hb.mono HB.out.drew.size))
       clear hb)
    | (go_at_call 150
       with_reducible refine (HF.out _).mono ?_
       rintro e w1 ⟨rfl, rfl⟩))
  go_wp2
  go_ret
  exact ⟨congrArg (fun x => Ending.returned (.int .i64 x)) HW.out, HB1.out⟩

set_option maxHeartbeats 1000000 in
theorem blocksAt_any (w : World) (n m s : Int) (h1 : 1 ≤ n ∧ n ≤ 65534) (h2 : 1 ≤ m ∧ m ≤ 65534) :
    Calls Tryz.prog 144 #[.agg #[.int .i64 n, .int .i64 m, .int .i64 s]] w fun r w' => r = .returned (.int .i64 (bkAt n m)) ∧ Below w.heap.size w w' := by
  have hbm := bm_bounds h1 h2
  have hl : 0 ≤ lines ((n + 63) / 64) ∧ lines ((n + 63) / 64) ≤ 70000 := by unfold lines; omega
  have HS := Lib.hid (fun w => bitmapAt_any w n m s h1 h2)
  have HN := Lib.hid (fun w => bitWords_any w n m s (by omega) (by omega))
  have HF := Lib.hid (fun w => filled_any w ((n + 63) / 64) (by omega) (by omega))
  have HW := Lib.hid (show IntKind.i64.wrap (bmAt n m + lines ((n + 63) / 64)) = bkAt n m from IntWalk.i64_in _ (by omega))
  have HX := Lib.hid (boxed w n m s 80)
  have HB := Lib.hid ((Below.refl w.heap.size w).alloc (Nat.le_refl _) (.cells #[.int .i64 n, .int .i64 m, .int .i64 s] 80))
  clear hbm
  go_enter Tryz.func144, Tryz.ntmps144
  go_wp2
  generalize w.alloc (.cells #[.int .i64 n, .int .i64 m, .int .i64 s] 80) = W at *
  have hc0 := HX.out.c0
  have hc1 := HX.out.c1
  have hc2 := HX.out.c2
  go_region_held3 (fun W' => W'.cell? ⟨w.heap.size, 0, none⟩ = some (.int .i64 n) ∧ W'.cell? ⟨w.heap.size, 1, none⟩ = some (.int .i64 m) ∧ W'.cell? ⟨w.heap.size, 2, none⟩ = some (.int .i64 s)) (go_keep)
    (first
    | (go_at_call 142
       with_reducible refine (HS.out _).mono ?_
       rintro e w1 ⟨rfl, hb⟩
       have HY := Lib.hid (HX.out.drew.keep hb)
       have hk0 := HY.out.c0
       have hk1 := HY.out.c1
       have hk2 := HY.out.c2
       have HB1 := Lib.hid (HB.out.drew.trans (hb.mono HB.out.drew.size))
       clear hb)
    | (go_at_call 143
       with_reducible refine (HN.out _).mono ?_
       rintro e w2 ⟨rfl, hb⟩
       have HZ := Lib.hid (HY.out.keep hb)
       have hl0 := HZ.out.c0
       have hl1 := HZ.out.c1
       have hl2 := HZ.out.c2
       have HB2 := Lib.hid (HB1.out.trans (hb.mono HB1.out.size))
       clear hb)
    | (go_at_call 150
       with_reducible refine (HF.out _).mono ?_
       rintro e w3 ⟨rfl, rfl⟩))
  go_wp2
  go_ret
  exact ⟨congrArg (fun x => Ending.returned (.int .i64 x)) HW.out, HB2.out⟩

set_option maxHeartbeats 1000000 in
theorem end_any (w : World) (n m s : Int) (h1 : 1 ≤ n ∧ n ≤ 65534) (h2 : 1 ≤ m ∧ m ≤ 65534) (h3 : Sz s) :
    Calls Tryz.prog 129 #[.agg #[.int .i64 n, .int .i64 m, .int .i64 s]] w fun r w' => r = .returned (.int .i64 (fin n m s)) ∧ Below w.heap.size w w' := by
  have hbk := bk_bounds h1 h2
  have hs := h3.bounds
  have hf := fin_bounds h1 h2 h3
  have HS := Lib.hid (fun w => blocksAt_any w n m s h1 h2)
  have HN := Lib.hid (fun w => blockWords_any w n m s (by omega) (by omega))
  have HW := Lib.hid (show IntKind.i64.wrap (bkAt n m + IntKind.i64.wrap (n * (s / 8))) = fin n m s by
    rw [IntWalk.i64_in (n * (s / 8)) (by omega)]
    exact IntWalk.i64_in _ (by have : fin n m s = bkAt n m + n * (s / 8) := rfl; omega))
  have HX := Lib.hid (boxed w n m s 80)
  have HB := Lib.hid ((Below.refl w.heap.size w).alloc (Nat.le_refl _) (.cells #[.int .i64 n, .int .i64 m, .int .i64 s] 80))
  clear hbk hs hf h3
  go_enter Tryz.func129, Tryz.ntmps129
  go_wp2
  generalize w.alloc (.cells #[.int .i64 n, .int .i64 m, .int .i64 s] 80) = W at *
  have hc0 := HX.out.c0
  have hc1 := HX.out.c1
  have hc2 := HX.out.c2
  go_region_held3 (fun W' => W'.cell? ⟨w.heap.size, 0, none⟩ = some (.int .i64 n) ∧ W'.cell? ⟨w.heap.size, 1, none⟩ = some (.int .i64 m) ∧ W'.cell? ⟨w.heap.size, 2, none⟩ = some (.int .i64 s)) (go_keep)
    (first
    | (go_at_call 144
       with_reducible refine (HS.out _).mono ?_
       rintro e w1 ⟨rfl, hb⟩
       have HY := Lib.hid (HX.out.drew.keep hb)
       have hk0 := HY.out.c0
       have hk1 := HY.out.c1
       have hk2 := HY.out.c2
       have HB1 := Lib.hid (HB.out.drew.trans (hb.mono HB.out.drew.size))
       clear hb)
    | (go_at_call 145
       with_reducible refine (HN.out _).mono ?_
       rintro e w2 ⟨rfl, hb⟩
       have HZ := Lib.hid (HY.out.keep hb)
       have hl0 := HZ.out.c0
       have hl1 := HZ.out.c1
       have hl2 := HZ.out.c2
       have HB2 := Lib.hid (HB1.out.trans (hb.mono HB1.out.size))
       clear hb))
  go_wp2
  go_ret
  exact ⟨congrArg (fun x => Ending.returned (.int .i64 x)) HW.out, HB2.out⟩
end Geo
end Go.Proofs.YtleehhpodgbomaaGreatDoor
/- Of numbers that may not be: where the parts would begin is some number. -/
namespace Go.Proofs.YtleehhpodgbomaaGreatDoor
open Go.RowKit Go.MapKept
namespace Geo

/-- some number is returned, and what there was stays -/
def Some' (w : World) (r : Ending) (w' : World) : Prop := ∃ v, r = .returned (.int .i64 v) ∧ I64 v ∧ Below w.heap.size w w'

theorem blockWords_some (w : World) (n m s : Int) (h : I64 s) :
    Calls Tryz.prog 145 #[.agg #[.int .i64 n, .int .i64 m, .int .i64 s]] w (Some' w) := by
  by_cases h0 : 0 ≤ s
  · refine (blockWords_any w n m s h0 h.2).mono ?_
    rintro r w' ⟨rfl, hb⟩
    have := h.2
    exact ⟨_, rfl, by unfold I64; omega, hb⟩
  · have hd : -9223372036854775808 ≤ s.tdiv 8 ∧ s.tdiv 8 ≤ 0 := by
      obtain ⟨k, rfl⟩ : ∃ k : Nat, s = -(k : Int) := ⟨(-s).toNat, by omega⟩
      rw [Int.neg_tdiv]
      have h1 := h.1
      have : ((k : Int)).tdiv 8 = (k : Int) / 8 := Int.tdiv_eq_ediv_of_nonneg (by omega)
      omega
    obtain ⟨h1, h2⟩ := h
    go_enter Tryz.func145, Tryz.ntmps145
    go_wp2
    go_ret
    exact ⟨_, rfl, by unfold I64; omega, (Below.refl _ _).alloc (Nat.le_refl _) _⟩

theorem bitWords_some (w : World) (n m s : Int) (h : I64 n) :
    Calls Tryz.prog 143 #[.agg #[.int .i64 n, .int .i64 m, .int .i64 s]] w (Some' w) := by
  have HP := Lib.hid (fun w => parts_some w n 64 h (.inr rfl))
  go_enter Tryz.func143, Tryz.ntmps143
  go_wp2_with (go_at_call 151; refine (HP.out _).mono ?_; rintro e w' ⟨⟨v, rfl, hv⟩, rfl⟩)
  go_ret
  exact ⟨_, rfl, hv, (Below.refl _ _).alloc (Nat.le_refl _) _⟩

theorem slotsAt_some (w : World) (n m s : Int) :
    Calls Tryz.prog 62 #[.agg #[.int .i64 n, .int .i64 m, .int .i64 s]] w (Some' w) := by
  go_enter Tryz.func62, Tryz.ntmps62
  go_wp2
  go_ret
  exact ⟨_, rfl, by unfold I64 wrap64; omega, (Below.refl _ _).alloc (Nat.le_refl _) _⟩

set_option maxHeartbeats 1000000 in
theorem bitmapAt_some (w : World) (n m s : Int) (h1 : I64 n) :
    Calls Tryz.prog 142 #[.agg #[.int .i64 n, .int .i64 m, .int .i64 s]] w (Some' w) := by
  have HS := Lib.hid (fun w => slotsAt_some w n m s)
  have HF := Lib.hid (fun w => filled_some w n h1)
  have HX := Lib.hid (boxed w n m s 80)
  have HB := Lib.hid ((Below.refl w.heap.size w).alloc (Nat.le_refl _) (.cells #[.int .i64 n, .int .i64 m, .int .i64 s] 80))
  clear h1
  go_enter Tryz.func142, Tryz.ntmps142
  go_wp2
  generalize w.alloc (.cells #[.int .i64 n, .int .i64 m, .int .i64 s] 80) = W at *
  have hc0 := HX.out.c0
  have hc1 := HX.out.c1
  have hc2 := HX.out.c2
  go_region_held3 (fun W' => W'.cell? ⟨w.heap.size, 0, none⟩ = some (.int .i64 n) ∧ W'.cell? ⟨w.heap.size, 1, none⟩ = some (.int .i64 m) ∧ W'.cell? ⟨w.heap.size, 2, none⟩ = some (.int .i64 s)) (go_keep)
    (first
    | (go_at_call 62
       with_reducible refine (HS.out _).mono ?_
       rintro e w1 ⟨v1, rfl, _, hb⟩
       have HY := Lib.hid (HX.out.drew.keep hb)
       have hk0 := HY.out.c0
       have hk1 := HY.out.c1
       have hk2 := HY.out.c2
       have HB1 := Lib.hid (HB.out.drew.trans (hb.mono HB.out.drew.size))
       clear hb)
    | (go_at_call 150
       with_reducible refine (HF.out _).mono ?_
       rintro e w1 ⟨⟨v2, rfl, _⟩, rfl⟩))
  go_wp2
  go_ret
  exact ⟨_, rfl, i64_wrap _, HB1.out⟩

set_option maxHeartbeats 1000000 in
theorem blocksAt_some (w : World) (n m s : Int) (h1 : I64 n) :
    Calls Tryz.prog 144 #[.agg #[.int .i64 n, .int .i64 m, .int .i64 s]] w (Some' w) := by
  have HS := Lib.hid (fun w => bitmapAt_some w n m s h1)
  have HN := Lib.hid (fun w => bitWords_some w n m s h1)
  have HF := Lib.hid (fun w n h => filled_some w n h)
  have HX := Lib.hid (boxed w n m s 80)
  have HB := Lib.hid ((Below.refl w.heap.size w).alloc (Nat.le_refl _) (.cells #[.int .i64 n, .int .i64 m, .int .i64 s] 80))
  clear h1
  go_enter Tryz.func144, Tryz.ntmps144
  go_wp2
  generalize w.alloc (.cells #[.int .i64 n, .int .i64 m, .int .i64 s] 80) = W at *
  have hc0 := HX.out.c0
  have hc1 := HX.out.c1
  have hc2 := HX.out.c2
  go_region_held3 (fun W' => W'.cell? ⟨w.heap.size, 0, none⟩ = some (.int .i64 n) ∧ W'.cell? ⟨w.heap.size, 1, none⟩ = some (.int .i64 m) ∧ W'.cell? ⟨w.heap.size, 2, none⟩ = some (.int .i64 s)) (go_keep)
    (first
    | (go_at_call 142
       with_reducible refine (HS.out _).mono ?_
       rintro e w1 ⟨v1, rfl, _, hb⟩
       have HY := Lib.hid (HX.out.drew.keep hb)
       have hk0 := HY.out.c0
       have hk1 := HY.out.c1
       have hk2 := HY.out.c2
       have HB1 := Lib.hid (HB.out.drew.trans (hb.mono HB.out.drew.size))
       clear hb)
    | (go_at_call 143
       with_reducible refine (HN.out _).mono ?_
       rintro e w2 ⟨v2, rfl, hv2, hb⟩
       have HV := Lib.hid hv2
       clear hv2
       have HZ := Lib.hid (HY.out.keep hb)
       have hl0 := HZ.out.c0
       have hl1 := HZ.out.c1
       have hl2 := HZ.out.c2
       have HB2 := Lib.hid (HB1.out.trans (hb.mono HB1.out.size))
       clear hb)
    | (go_at_call 150
       with_reducible refine (HF.out _ _ HV.out).mono ?_
       rintro e w3 ⟨⟨v3, rfl, _⟩, rfl⟩))
  go_wp2
  go_ret
  exact ⟨_, rfl, i64_wrap _, HB2.out⟩
end Geo
end Go.Proofs.YtleehhpodgbomaaGreatDoor
/- May it be? Where one of so many stands. -/
namespace Go.Proofs.YtleehhpodgbomaaGreatDoor
open Go.RowKit Go.MapKept
namespace Geo

set_option maxHeartbeats 1000000 in
theorem may_any (w : World) (n m s : Int) :
    Calls Tryz.prog 111 #[.agg #[.int .i64 n, .int .i64 m, .int .i64 s]] w fun r w' => r = .returned (.bool (may n m s)) ∧ Below w.heap.size w w' := by
  have HI := Lib.hid (fun w n => within_any w n 1 65534)
  have HS := Lib.hid (fun w => size_any w s)
  have HB := Lib.hid ((Below.refl w.heap.size w).alloc (Nat.le_refl _) (.cells #[.int .i64 n, .int .i64 m, .int .i64 s] 80))
  by_cases h1 : 1 ≤ n ∧ n ≤ 65534
  · by_cases h2 : 1 ≤ m ∧ m ≤ 65534
    · by_cases h3 : Sz s
      · have HE := Lib.hid (fun w => end_any w n m s h1 h2 h3)
        have H1 := Lib.hid (decide_eq_true h1)
        have H2 := Lib.hid (decide_eq_true h2)
        have H3 := Lib.hid (decide_eq_true h3)
        have hf := fin_bounds h1 h2 h3
        have HM := Lib.hid (show may n m s = decide (fin n m s ≤ 4194304) by unfold may Num; simp [h1, h2, h3])
        clear h1 h2 h3
        go_enter Tryz.func111, Tryz.ntmps111
        go_wp2_with fail
        refine (HI.out _ _).mono ?_
        rintro e w' ⟨rfl, rfl⟩
        rw [H1.out]
        go_wp2_with fail
        refine (HI.out _ _).mono ?_
        rintro e w' ⟨rfl, rfl⟩
        rw [H2.out]
        go_wp2_with fail
        refine (HS.out _).mono ?_
        rintro e w' ⟨rfl, rfl⟩
        rw [H3.out]
        go_wp2_with fail
        refine (HE.out _).mono ?_
        rintro e w' ⟨rfl, hb⟩
        have HB1 := Lib.hid (HB.out.trans (hb.mono HB.out.size))
        clear hb
        go_wp2
        go_ret
        exact ⟨by rw [HM.out]; rfl, HB1.out⟩
      · have H1 := Lib.hid (decide_eq_true h1)
        have H2 := Lib.hid (decide_eq_true h2)
        have H3 := Lib.hid (decide_eq_false h3)
        have HM := Lib.hid (show may n m s = false from may_no (fun h => h3 h.1.2.2))
        clear h1 h2 h3
        go_enter Tryz.func111, Tryz.ntmps111
        go_wp2_with fail
        refine (HI.out _ _).mono ?_
        rintro e w' ⟨rfl, rfl⟩
        rw [H1.out]
        go_wp2_with fail
        refine (HI.out _ _).mono ?_
        rintro e w' ⟨rfl, rfl⟩
        rw [H2.out]
        go_wp2_with fail
        refine (HS.out _).mono ?_
        rintro e w' ⟨rfl, rfl⟩
        rw [H3.out]
        go_wp2
        go_ret
        exact ⟨by rw [HM.out]; rfl, HB.out⟩
    · have H1 := Lib.hid (decide_eq_true h1)
      have H2 := Lib.hid (decide_eq_false h2)
      have HM := Lib.hid (show may n m s = false from may_no (fun h => h2 h.1.2.1))
      clear h1 h2
      go_enter Tryz.func111, Tryz.ntmps111
      go_wp2_with fail
      refine (HI.out _ _).mono ?_
      rintro e w' ⟨rfl, rfl⟩
      rw [H1.out]
      go_wp2_with fail
      refine (HI.out _ _).mono ?_
      rintro e w' ⟨rfl, rfl⟩
      rw [H2.out]
      go_wp2
      go_ret
      exact ⟨by rw [HM.out]; rfl, HB.out⟩
  · have H1 := Lib.hid (decide_eq_false h1)
    have HM := Lib.hid (show may n m s = false from may_no (fun h => h1 h.1.1))
    clear h1
    go_enter Tryz.func111, Tryz.ntmps111
    go_wp2_with fail
    refine (HI.out _ _).mono ?_
    rintro e w' ⟨rfl, rfl⟩
    rw [H1.out]
    go_wp2
    go_ret
    exact ⟨by rw [HM.out]; rfl, HB.out⟩

theorem has_no (w : World) (n m s i c : Int) (hm : may n m s = false) :
    Calls Tryz.prog 100 #[.agg #[.int .i64 n, .int .i64 m, .int .i64 s], .int .i64 i, .int .i64 c] w fun r w' => r = .returned (.bool false) ∧ Below w.heap.size w w' := by
  have HM := Lib.hid (fun w => may_any w n m s)
  have HE := Lib.hid hm
  clear hm
  have HB := Lib.hid ((Below.refl w.heap.size w).alloc (Nat.le_refl _) (.cells #[.int .i64 n, .int .i64 m, .int .i64 s] 80))
  go_enter Tryz.func100, Tryz.ntmps100
  go_wp2_with fail
  refine (HM.out _).mono ?_
  rintro e w' ⟨rfl, hb⟩
  rw [HE.out]
  have HB1 := Lib.hid (HB.out.trans (hb.mono HB.out.size))
  clear hb
  go_wp2
  go_ret
  exact ⟨rfl, HB1.out⟩

theorem has_yes (w : World) (n m s i c : Int) (hm : may n m s = true) (hc : 1 ≤ c) (hc2 : c ≤ 65534) :
    Calls Tryz.prog 100 #[.agg #[.int .i64 n, .int .i64 m, .int .i64 s], .int .i64 i, .int .i64 c] w fun r w' => r = .returned (.bool (decide (0 ≤ i ∧ i ≤ c - 1))) ∧ Below w.heap.size w w' := by
  have HM := Lib.hid (fun w => may_any w n m s)
  have HI := Lib.hid (fun w => within_any w i 0 (c - 1))
  have HE := Lib.hid hm
  clear hm
  have HB := Lib.hid ((Below.refl w.heap.size w).alloc (Nat.le_refl _) (.cells #[.int .i64 n, .int .i64 m, .int .i64 s] 80))
  go_enter Tryz.func100, Tryz.ntmps100
  go_wp2_with fail
  refine (HM.out _).mono ?_
  rintro e w' ⟨rfl, hb⟩
  rw [HE.out]
  have HB1 := Lib.hid (HB.out.trans (hb.mono HB.out.size))
  clear hb
  go_wp2_with fail
  refine (HI.out _).mono ?_
  rintro e w' ⟨rfl, rfl⟩
  by_cases h : 0 ≤ i ∧ i ≤ c - 1
  · have H := Lib.hid (decide_eq_true h)
    clear h
    rw [H.out]
    go_wp2
    go_ret
    exact ⟨by rw [H.out]; rfl, HB1.out⟩
  · have H := Lib.hid (decide_eq_false h)
    clear h
    rw [H.out]
    go_wp2
    go_ret
    exact ⟨by rw [H.out]; rfl, HB1.out⟩

/-- where one of so many stands -/
def plc (n m s i c a e : Int) : Int := if may n m s = true ∧ 0 ≤ i ∧ i < c then a + i * e else -1
theorem plc_yes {n m s i c a e : Int} (h1 : may n m s = true) (h2 : 0 ≤ i) (h3 : i < c) : plc n m s i c a e = a + i * e := if_pos ⟨h1, h2, h3⟩
theorem plc_no {n m s i c a e : Int} (h : may n m s = false) : plc n m s i c a e = -1 := if_neg (fun h' => by simp [h] at h')
theorem plc_out {n m s i c a e : Int} (h : ¬ (0 ≤ i ∧ i < c)) : plc n m s i c a e = -1 := if_neg (fun h' => h h'.2)

theorem place_any (w : World) (n m s i c a e : Int) (hc : may n m s = true → 1 ≤ c ∧ c ≤ 65534) (ha : may n m s = true → 0 ≤ a ∧ a ≤ 1000000) (he : may n m s = true → 0 ≤ e ∧ e ≤ 512) :
    Calls Tryz.prog 61 #[.agg #[.int .i64 n, .int .i64 m, .int .i64 s], .int .i64 i, .int .i64 c, .int .i64 a, .int .i64 e] w fun r w' => r = .returned (.int .i64 (plc n m s i c a e)) ∧ Below w.heap.size w w' := by
  have HB := Lib.hid ((Below.refl w.heap.size w).alloc (Nat.le_refl _) (.cells #[.int .i64 n, .int .i64 m, .int .i64 s] 80))
  cases hm : may n m s with
  | false =>
    have HH := Lib.hid (fun w => has_no w n m s i c hm)
    have HP := Lib.hid (plc_no (i := i) (c := c) (a := a) (e := e) hm)
    clear hm hc ha he
    go_enter Tryz.func61, Tryz.ntmps61
    go_wp2_with fail
    refine (HH.out _).mono ?_
    rintro e w' ⟨rfl, hb⟩
    have HB1 := Lib.hid (HB.out.trans (hb.mono HB.out.size))
    clear hb
    go_wp2
    go_ret
    exact ⟨by rw [HP.out]; rfl, HB1.out⟩
  | true =>
    obtain ⟨hc1, hc2⟩ := hc hm
    obtain ⟨ha1, ha2⟩ := ha hm
    obtain ⟨he1, he2⟩ := he hm
    have HH := Lib.hid (fun w => has_yes w n m s i c hm hc1 hc2)
    by_cases h : 0 ≤ i ∧ i ≤ c - 1
    · have HP := Lib.hid (plc_yes (i := i) (c := c) (a := a) (e := e) hm h.1 (by omega))
      have HD := Lib.hid (decide_eq_true h)
      have hx := mul_bounds (i := i) (a := 65534) (q := e) (b := 512) (by omega) (by omega) he1 he2
      clear hm hc ha he
      go_enter Tryz.func61, Tryz.ntmps61
      go_wp2_with fail
      refine (HH.out _).mono ?_
      rintro r w' ⟨rfl, hb⟩
      rw [HD.out]
      have HB1 := Lib.hid (HB.out.trans (hb.mono HB.out.size))
      clear hb
      go_wp2
      go_ret
      exact ⟨by rw [HP.out]; rfl, HB1.out⟩
    · have HP := Lib.hid (plc_out (n := n) (m := m) (s := s) (i := i) (c := c) (a := a) (e := e) (by omega))
      have HD := Lib.hid (decide_eq_false h)
      clear hm hc ha he h
      go_enter Tryz.func61, Tryz.ntmps61
      go_wp2_with fail
      refine (HH.out _).mono ?_
      rintro r w' ⟨rfl, hb⟩
      rw [HD.out]
      have HB1 := Lib.hid (HB.out.trans (hb.mono HB.out.size))
      clear hb
      go_wp2
      go_ret
      exact ⟨by rw [HP.out]; rfl, HB1.out⟩
end Geo
end Go.Proofs.YtleehhpodgbomaaGreatDoor
/- The calls that tell where everything stands. -/
namespace Go.Proofs.YtleehhpodgbomaaGreatDoor
open Go.RowKit Go.MapKept
namespace Geo

/-- x, if it may be; else y -/
def iff' (n m s x y : Int) : Int := if may n m s = true then x else y
theorem iff_yes {n m s x y : Int} (h : may n m s = true) : iff' n m s x y = x := if_pos h
theorem iff_no {n m s x y : Int} (h : may n m s = false) : iff' n m s x y = y := if_neg (by simp [h])

theorem words_any (w : World) (n m s : Int) :
    Calls Tryz.prog 93 #[.agg #[.int .i64 n, .int .i64 m, .int .i64 s]] w fun r w' => r = .returned (.int .i64 (iff' n m s (fin n m s) 0)) ∧ Below w.heap.size w w' := by
  have HM := Lib.hid (fun w => may_any w n m s)
  have HB := Lib.hid ((Below.refl w.heap.size w).alloc (Nat.le_refl _) (.cells #[.int .i64 n, .int .i64 m, .int .i64 s] 80))
  have HX := Lib.hid (boxed w n m s 80)
  cases hm : may n m s with
  | false =>
    have HE := Lib.hid hm
    have HI := Lib.hid (iff_no (x := fin n m s) (y := 0) hm)
    clear hm
    go_enter Tryz.func93, Tryz.ntmps93
    go_wp2_with fail
    refine (HM.out _).mono ?_
    rintro e w' ⟨rfl, hb⟩
    rw [HE.out]
    have HB1 := Lib.hid (HB.out.trans (hb.mono HB.out.size))
    clear hb
    go_wp2
    go_ret
    exact ⟨by rw [HI.out]; rfl, HB1.out⟩
  | true =>
    have HE := Lib.hid hm
    have HI := Lib.hid (iff_yes (x := fin n m s) (y := 0) hm)
    obtain ⟨⟨h1, h2, h3⟩, _⟩ := may_num hm
    have HN := Lib.hid (fun w => end_any w n m s h1 h2 h3)
    clear hm h1 h2 h3
    go_enter Tryz.func93, Tryz.ntmps93
    go_wp2_with fail
    refine (HM.out _).mono ?_
    rintro e w1 ⟨rfl, hb⟩
    rw [HE.out]
    have HB1 := Lib.hid (HB.out.trans (hb.mono HB.out.size))
    have HX1 := Lib.hid (HX.out.keep hb)
    clear hb
    have hc0 := HX1.out.c0
    have hc1 := HX1.out.c1
    have hc2 := HX1.out.c2
    go_wp2_with fail
    refine (HN.out _).mono ?_
    rintro e w2 ⟨rfl, hb⟩
    have HB2 := Lib.hid (HB1.out.trans (hb.mono HB1.out.size))
    clear hb
    go_wp2
    go_ret
    exact ⟨by rw [HI.out]; rfl, HB2.out⟩

theorem inode_any (w : World) (n m s i : Int) :
    Calls Tryz.prog 120 #[.agg #[.int .i64 n, .int .i64 m, .int .i64 s], .int .i64 i] w fun r w' => r = .returned (.int .i64 (plc n m s i m 16 8)) ∧ Below w.heap.size w w' := by
  have HP := Lib.hid (fun w => place_any w n m s i m 16 8 (fun h => (may_num h).1.2.1) (fun _ => by decide) (fun _ => by decide))
  have HB := Lib.hid ((Below.refl w.heap.size w).alloc (Nat.le_refl _) (.cells #[.int .i64 n, .int .i64 m, .int .i64 s] 80))
  go_enter Tryz.func120, Tryz.ntmps120
  go_wp2_with fail
  refine (HP.out _).mono ?_
  rintro e w1 ⟨rfl, hb⟩
  have HB1 := Lib.hid (HB.out.trans (hb.mono HB.out.size))
  clear hb
  go_wp2
  go_ret
  exact ⟨rfl, HB1.out⟩

set_option maxHeartbeats 1000000 in
theorem slot_any (w : World) (n m s i : Int) :
    Calls Tryz.prog 39 #[.agg #[.int .i64 n, .int .i64 m, .int .i64 s], .int .i64 i] w fun r w' => r = .returned (.int .i64 (plc n m s i n (16 + m * 8) 1)) ∧ Below w.heap.size w w' := by
  have HS : Hid (∀ w, Calls Tryz.prog 62 #[.agg #[.int .i64 n, .int .i64 m, .int .i64 s]] w fun r w' => ∃ v, r = .returned (.int .i64 v) ∧ (may n m s = true → v = 16 + m * 8) ∧ Below w.heap.size w w') := Lib.hid (fun w => by
    cases hm : may n m s with
    | false => exact (slotsAt_some w n m s).mono fun r w' ⟨v, h1, _, h2⟩ => ⟨v, h1, (fun h => by cases h), h2⟩
    | true =>
      obtain ⟨⟨_, h2, _⟩, _⟩ := may_num hm
      exact (slotsAt_any w n m s (by omega) (by omega)).mono fun r w' ⟨h1, h2⟩ => ⟨_, h1, fun _ => rfl, h2⟩)
  have HP : Hid (∀ w v, (may n m s = true → v = 16 + m * 8) → Calls Tryz.prog 61 #[.agg #[.int .i64 n, .int .i64 m, .int .i64 s], .int .i64 i, .int .i64 n, .int .i64 v, .int .i64 1] w fun r w' => r = .returned (.int .i64 (plc n m s i n (16 + m * 8) 1)) ∧ Below w.heap.size w w') := Lib.hid (fun w v hv => by
    refine (place_any w n m s i n v 1 (fun h => (may_num h).1.1) (fun h => by have := hv h; have := (may_num h).1.2.1; omega) (fun _ => by decide)).mono ?_
    rintro r w' ⟨rfl, hb⟩
    refine ⟨?_, hb⟩
    cases hm : may n m s with
    | false => rw [plc_no hm, plc_no hm]
    | true => rw [hv hm])
  have HB := Lib.hid ((Below.refl w.heap.size w).alloc (Nat.le_refl _) (.cells #[.int .i64 n, .int .i64 m, .int .i64 s] 80))
  have HX := Lib.hid (boxed w n m s 80)
  go_enter Tryz.func39, Tryz.ntmps39
  go_wp2
  generalize w.alloc (.cells #[.int .i64 n, .int .i64 m, .int .i64 s] 80) = W at *
  have hc0 := HX.out.c0
  have hc1 := HX.out.c1
  have hc2 := HX.out.c2
  go_region_held3 (fun W' => W'.cell? ⟨w.heap.size, 0, none⟩ = some (.int .i64 n) ∧ W'.cell? ⟨w.heap.size, 1, none⟩ = some (.int .i64 m) ∧ W'.cell? ⟨w.heap.size, 2, none⟩ = some (.int .i64 s)) (go_keep)
    (first
    | (go_at_call 62
       with_reducible refine (HS.out _).mono ?_
       rintro e w1 ⟨v1, rfl, hv, hb⟩
       have HV := Lib.hid hv
       have HY := Lib.hid (HX.out.drew.keep hb)
       have hk0 := HY.out.c0
       have hk1 := HY.out.c1
       have hk2 := HY.out.c2
       have HB1 := Lib.hid (HB.out.drew.trans (hb.mono HB.out.drew.size))
       clear hb hv)
    | (go_at_call 61
       with_reducible refine (HP.out _ _ HV.out).mono ?_
       rintro e w2 ⟨rfl, hb⟩
       have HZ := Lib.hid (HY.out.keep hb)
       have hl0 := HZ.out.c0
       have hl1 := HZ.out.c1
       have hl2 := HZ.out.c2
       have HB2 := Lib.hid (HB1.out.trans (hb.mono HB1.out.size))
       clear hb))
  go_wp2
  go_ret
  exact ⟨rfl, HB2.out⟩

set_option maxHeartbeats 1000000 in
theorem block_any (w : World) (n m s i : Int) (hn : I64 n) (hs : I64 s) :
    Calls Tryz.prog 121 #[.agg #[.int .i64 n, .int .i64 m, .int .i64 s], .int .i64 i] w fun r w' => r = .returned (.int .i64 (plc n m s i n (bkAt n m) (s / 8))) ∧ Below w.heap.size w w' := by
  have HS : Hid (∀ w, Calls Tryz.prog 144 #[.agg #[.int .i64 n, .int .i64 m, .int .i64 s]] w fun r w' => ∃ v, r = .returned (.int .i64 v) ∧ (may n m s = true → v = bkAt n m) ∧ Below w.heap.size w w') := Lib.hid (fun w => by
    cases hm : may n m s with
    | false => exact (blocksAt_some w n m s hn).mono fun r w' ⟨v, h1, _, h2⟩ => ⟨v, h1, (fun h => by cases h), h2⟩
    | true =>
      obtain ⟨⟨h1, h2, _⟩, _⟩ := may_num hm
      exact (blocksAt_any w n m s h1 h2).mono fun r w' ⟨h1, h2⟩ => ⟨_, h1, fun _ => rfl, h2⟩)
  have HQ : Hid (∀ w, Calls Tryz.prog 145 #[.agg #[.int .i64 n, .int .i64 m, .int .i64 s]] w fun r w' => ∃ v, r = .returned (.int .i64 v) ∧ (may n m s = true → v = s / 8) ∧ Below w.heap.size w w') := Lib.hid (fun w => by
    cases hm : may n m s with
    | false => exact (blockWords_some w n m s hs).mono fun r w' ⟨v, h1, _, h2⟩ => ⟨v, h1, (fun h => by cases h), h2⟩
    | true =>
      obtain ⟨⟨_, _, h3⟩, _⟩ := may_num hm
      exact (blockWords_any w n m s (by have := h3.bounds; omega) (by have := h3.bounds; omega)).mono fun r w' ⟨h1, h2⟩ => ⟨_, h1, fun _ => rfl, h2⟩)
  have HP : Hid (∀ w v q, (may n m s = true → v = bkAt n m) → (may n m s = true → q = s / 8) → Calls Tryz.prog 61 #[.agg #[.int .i64 n, .int .i64 m, .int .i64 s], .int .i64 i, .int .i64 n, .int .i64 v, .int .i64 q] w fun r w' => r = .returned (.int .i64 (plc n m s i n (bkAt n m) (s / 8))) ∧ Below w.heap.size w w') := Lib.hid (fun w v q hv hq => by
    refine (place_any w n m s i n v q (fun h => (may_num h).1.1) (fun h => by have := hv h; have := bk_bounds (may_num h).1.1 (may_num h).1.2.1; omega) (fun h => by have := hq h; have := (may_num h).1.2.2.bounds; omega)).mono ?_
    rintro r w' ⟨rfl, hb⟩
    refine ⟨?_, hb⟩
    cases hm : may n m s with
    | false => rw [plc_no hm, plc_no hm]
    | true => rw [hv hm, hq hm])
  have HB := Lib.hid ((Below.refl w.heap.size w).alloc (Nat.le_refl _) (.cells #[.int .i64 n, .int .i64 m, .int .i64 s] 80))
  have HX := Lib.hid (boxed w n m s 80)
  clear hn hs
  go_enter Tryz.func121, Tryz.ntmps121
  go_wp2
  generalize w.alloc (.cells #[.int .i64 n, .int .i64 m, .int .i64 s] 80) = W at *
  have hc0 := HX.out.c0
  have hc1 := HX.out.c1
  have hc2 := HX.out.c2
  go_region_held3 (fun W' => W'.cell? ⟨w.heap.size, 0, none⟩ = some (.int .i64 n) ∧ W'.cell? ⟨w.heap.size, 1, none⟩ = some (.int .i64 m) ∧ W'.cell? ⟨w.heap.size, 2, none⟩ = some (.int .i64 s)) (go_keep)
    (first
    | (go_at_call 144
       with_reducible refine (HS.out _).mono ?_
       rintro e w1 ⟨v1, rfl, hv, hb⟩
       have HV := Lib.hid hv
       have HY := Lib.hid (HX.out.drew.keep hb)
       have hk0 := HY.out.c0
       have hk1 := HY.out.c1
       have hk2 := HY.out.c2
       have HB1 := Lib.hid (HB.out.drew.trans (hb.mono HB.out.drew.size))
       clear hb hv)
    | (go_at_call 145
       with_reducible refine (HQ.out _).mono ?_
       rintro e w2 ⟨v2, rfl, hv, hb⟩
       have HV2 := Lib.hid hv
       have HZ := Lib.hid (HY.out.keep hb)
       have hl0 := HZ.out.c0
       have hl1 := HZ.out.c1
       have hl2 := HZ.out.c2
       have HB2 := Lib.hid (HB1.out.trans (hb.mono HB1.out.size))
       clear hb hv)
    | (go_at_call 61
       with_reducible refine (HP.out _ _ _ HV.out HV2.out).mono ?_
       rintro e w3 ⟨rfl, hb⟩
       have HT := Lib.hid (HZ.out.keep hb)
       have ho0 := HT.out.c0
       have ho1 := HT.out.c1
       have ho2 := HT.out.c2
       have HB3 := Lib.hid (HB2.out.trans (hb.mono HB2.out.size))
       clear hb))
  go_wp2
  go_ret
  exact ⟨rfl, HB3.out⟩
end Geo
end Go.Proofs.YtleehhpodgbomaaGreatDoor
/- The bitmap's place, a block's bit, how many blocks bytes take; the chapter's example. -/
namespace Go.Proofs.YtleehhpodgbomaaGreatDoor
open Go.RowKit Go.MapKept
namespace Geo

set_option maxHeartbeats 1000000 in
theorem bitmap_any (w : World) (n m s : Int) :
    Calls Tryz.prog 119 #[.agg #[.int .i64 n, .int .i64 m, .int .i64 s]] w fun r w' => r = .returned (.tuple #[.int .i64 (iff' n m s (bmAt n m) (-1)), .int .i64 (iff' n m s ((n + 63) / 64) 0)]) ∧ Below w.heap.size w w' := by
  have HM := Lib.hid (fun w => may_any w n m s)
  have HB := Lib.hid ((Below.refl w.heap.size w).alloc (Nat.le_refl _) (.cells #[.int .i64 n, .int .i64 m, .int .i64 s] 80))
  have HX := Lib.hid (boxed w n m s 80)
  cases hm : may n m s with
  | false =>
    have HE := Lib.hid hm
    have HI := Lib.hid (iff_no (x := bmAt n m) (y := -1) hm)
    have HJ := Lib.hid (iff_no (x := (n + 63) / 64) (y := 0) hm)
    clear hm
    go_enter Tryz.func119, Tryz.ntmps119
    go_wp2_with fail
    refine (HM.out _).mono ?_
    rintro e w' ⟨rfl, hb⟩
    rw [HE.out]
    have HB1 := Lib.hid (HB.out.trans (hb.mono HB.out.size))
    clear hb
    go_wp2
    go_ret2
    exact ⟨by rw [HI.out, HJ.out]; rfl, HB1.out⟩
  | true =>
    have HE := Lib.hid hm
    have HI := Lib.hid (iff_yes (x := bmAt n m) (y := -1) hm)
    have HJ := Lib.hid (iff_yes (x := (n + 63) / 64) (y := 0) hm)
    obtain ⟨⟨h1, h2, h3⟩, _⟩ := may_num hm
    have HN := Lib.hid (fun w => bitmapAt_any w n m s h1 h2)
    have HW := Lib.hid (fun w => bitWords_any w n m s (by omega) (by omega))
    clear hm h1 h2 h3
    go_enter Tryz.func119, Tryz.ntmps119
    go_wp2_with fail
    refine (HM.out _).mono ?_
    rintro e w1 ⟨rfl, hb⟩
    rw [HE.out]
    have HB1 := Lib.hid (HB.out.trans (hb.mono HB.out.size))
    have HX1 := Lib.hid (HX.out.keep hb)
    clear hb
    have hc0 := HX1.out.c0
    have hc1 := HX1.out.c1
    have hc2 := HX1.out.c2
    go_wp2
    go_region_held3 (fun W' => W'.cell? ⟨w.heap.size, 0, none⟩ = some (.int .i64 n) ∧ W'.cell? ⟨w.heap.size, 1, none⟩ = some (.int .i64 m) ∧ W'.cell? ⟨w.heap.size, 2, none⟩ = some (.int .i64 s)) (go_keep)
      (first
      | (go_at_call 142
         with_reducible refine (HN.out _).mono ?_
         rintro e w2 ⟨rfl, hb⟩
         have HY := Lib.hid (HX1.out.drew.keep hb)
         have hk0 := HY.out.c0
         have hk1 := HY.out.c1
         have hk2 := HY.out.c2
         have HB2 := Lib.hid (HB1.out.drew.trans (hb.mono HB1.out.drew.size))
         clear hb)
      | (go_at_call 143
         with_reducible refine (HW.out _).mono ?_
         rintro e w3 ⟨rfl, hb⟩
         have HZ := Lib.hid (HY.out.keep hb)
         have hl0 := HZ.out.c0
         have hl1 := HZ.out.c1
         have hl2 := HZ.out.c2
         have HB3 := Lib.hid (HB2.out.trans (hb.mono HB2.out.size))
         clear hb))
    go_wp2
    go_ret2
    exact ⟨by rw [HI.out, HJ.out]; rfl, HB3.out⟩

/-- that there is such a block -/
def Is (n m s i : Int) : Prop := may n m s = true ∧ 0 ≤ i ∧ i < n
instance (n m s i : Int) : Decidable (Is n m s i) := by unfold Is; infer_instance
/-- x, if there is such a block; else y -/
def isf (n m s i x y : Int) : Int := if Is n m s i then x else y
theorem isf_yes {n m s i x y : Int} (h : Is n m s i) : isf n m s i x y = x := if_pos h
theorem isf_no {n m s i x y : Int} (h : ¬ Is n m s i) : isf n m s i x y = y := if_neg h

/-- how many blocks bytes take -/
def need (n m s b : Int) : Int := if may n m s = true ∧ 0 ≤ b then prt b s else 0
theorem need_yes {n m s b : Int} (h1 : may n m s = true) (h2 : 0 ≤ b) : need n m s b = prt b s := if_pos ⟨h1, h2⟩
theorem need_no {n m s b : Int} (h : may n m s = false) : need n m s b = 0 := if_neg (fun h' => by simp [h] at h')
theorem need_neg {n m s b : Int} (h : ¬ 0 ≤ b) : need n m s b = 0 := if_neg (fun h' => h h'.2)

end Geo
end Go.Proofs.YtleehhpodgbomaaGreatDoor
/- The chapter's example; a small geometry; GeometryNeeds, walked. -/
namespace Go.Proofs.YtleehhpodgbomaaGreatDoor
open Go.RowKit Go.MapKept
namespace Geo

theorem ex_may : may 10 3 64 = true := by decide
theorem ex_inode : plc 10 3 64 2 3 16 8 = 32 := by decide
theorem ex_slot : plc 10 3 64 0 10 (16 + 3 * 8) 1 = 40 := by decide
theorem ex_first : iff' 10 3 64 (bmAt 10 3) (-1) = 56 := by decide
theorem ex_bits : iff' 10 3 64 ((10 + 63) / 64) 0 = 1 := by decide
theorem ex_block : plc 10 3 64 0 10 (bkAt 10 3) (64 / 8) = 64 := by decide
theorem ex_words : iff' 10 3 64 (fin 10 3 64) 0 = 144 := by decide

set_option maxHeartbeats 1000000 in
theorem lives_any (w : World) : Calls Tryz.prog 85 #[] w fun r w' => r = .returned (.bool true) ∧ Below w.heap.size w w' := by
  have HB := Lib.hid ((Below.refl w.heap.size w).alloc (Nat.le_refl _) (.cells #[.int .i64 10, .int .i64 3, .int .i64 64] 80))
  have HX := Lib.hid (boxed w 10 3 64 80)
  go_enter Tryz.func85, Tryz.ntmps85
  go_wp2_with fail
  refine (bitmap_any _ 10 3 64).mono ?_
  rintro e w1 ⟨rfl, hb⟩
  rw [ex_first, ex_bits]
  have HB1 := Lib.hid (HB.out.trans (hb.mono HB.out.size))
  have HX1 := Lib.hid (HX.out.keep hb)
  clear hb
  have hc0 := HX1.out.c0
  have hc1 := HX1.out.c1
  have hc2 := HX1.out.c2
  go_wp2_with fail
  refine (inode_any _ 10 3 64 2).mono ?_
  rintro e w2 ⟨rfl, hb⟩
  rw [ex_inode]
  have HB2 := Lib.hid (HB1.out.trans (hb.mono HB1.out.size))
  have HX2 := Lib.hid (HX1.out.keep hb)
  clear hb hc0 hc1 hc2
  have hc0 := HX2.out.c0
  have hc1 := HX2.out.c1
  have hc2 := HX2.out.c2
  go_wp2_with fail
  refine (slot_any _ 10 3 64 0).mono ?_
  rintro e w3 ⟨rfl, hb⟩
  rw [ex_slot]
  have HB3 := Lib.hid (HB2.out.trans (hb.mono HB2.out.size))
  have HX3 := Lib.hid (HX2.out.keep hb)
  clear hb hc0 hc1 hc2
  have hc0 := HX3.out.c0
  have hc1 := HX3.out.c1
  have hc2 := HX3.out.c2
  go_wp2_with fail
  refine (block_any _ 10 3 64 0 (by unfold I64; decide) (by unfold I64; decide)).mono ?_
  rintro e w4 ⟨rfl, hb⟩
  rw [ex_block]
  have HB4 := Lib.hid (HB3.out.trans (hb.mono HB3.out.size))
  have HX4 := Lib.hid (HX3.out.keep hb)
  clear hb hc0 hc1 hc2
  have hc0 := HX4.out.c0
  have hc1 := HX4.out.c1
  have hc2 := HX4.out.c2
  go_wp2_with fail
  refine (words_any _ 10 3 64).mono ?_
  rintro e w5 ⟨rfl, hb⟩
  rw [ex_words]
  have HB5 := Lib.hid (HB4.out.trans (hb.mono HB4.out.size))
  clear hb hc0 hc1 hc2
  go_wp2
  go_ret
  exact ⟨rfl, HB5.out⟩

/-- the bytes of a small geometry's block -/
def sz (k : Nat) : Int := 64 * 2 ^ (k % 3)
theorem sz_cases (k : Nat) : sz k = 64 ∨ sz k = 128 ∨ sz k = 256 := by
  unfold sz
  have : k % 3 = 0 ∨ k % 3 = 1 ∨ k % 3 = 2 := by omega
  rcases this with h | h | h <;> rw [h] <;> decide
theorem sz_sz (k : Nat) : Sz (sz k) := by
  have := sz_cases k
  unfold Sz
  omega
theorem small_may (n m k : Nat) (hn : n < 256) (hm : m < 256) : may (1 + n) (1 + m) (sz k) = true := by
  refine may_yes ⟨⟨by omega, by omega, sz_sz k⟩, ?_⟩
  unfold fin bkAt bmAt lines
  rcases sz_cases k with h | h | h <;> rw [h] <;> omega

end Geo
end Go.Proofs.YtleehhpodgbomaaGreatDoor
