/- Texts laid together: BmNext, BmRange, RunMath, BmWords, BmRef, BmRefW, BmSame, RunMem, RunFit, RunGrow. -/
import Derived.Test.YtilolepbfmcbgaaGreatDoorKa1
import Derived.Laws.OwnMore
import Derived.OneCell
import Derived.ArgAppend
import Derived.Lib.SliceRun
import Derived.Deep.RegionHeld3
import Derived.BigCall
import Derived.Deep.OwnRows
/- The next block, and blocks one behind the other. -/
namespace Go.Proofs.YtilolepbfmcbgaaGreatDoor
open Go.RowKit Go.MapKept
namespace Bm
open Pack (Wds Nts)

theorem not_u64 (y : Nat) (hy : y < 18446744073709551616) : bits BinOp.xor IntKind.u64 IntKind.u64.max (y : Int) = ((18446744073709551615 - y : Nat) : Int) := by
  have := u64_xor_nat 18446744073709551615 y (by decide) hy
  rw [show IntKind.u64.max = ((18446744073709551615 : Nat) : Int) from rfl, this]
  congr 1
  apply Nat.eq_of_testBit_eq
  intro i
  rw [Nat.testBit_xor, not_bit _ _ hy, top_bit]
  by_cases hi : i < 64
  · simp [hi]
  · have : y.testBit i = false := Nat.testBit_lt_two_pow (Nat.lt_of_lt_of_le hy (Nat.pow_le_pow_right (n := 2) (i := 64) (by omega) (by omega)))
    simp [hi, this]

section
variable {w : World} {p q K C n : Nat} {f : Nat → Bool}
set_option maxRecDepth 100000 in
set_option maxHeartbeats 2000000 in
theorem next_true (h : Mp w p q K C n f) (hT : Tab w) (x : Int) (s : Nat) (hs : (s : Int) = max x 0) (hx : x ≤ 9223372036854775807) :
    Calls Tryz.prog 51 #[.pointer (some ⟨p, 0, none⟩), .int .i64 x, .bool true] w fun e w' => e = .returned (.int .i64 (next f true n s)) ∧ w = w' := by
  have hc1 := h.c1
  have hkk := h.kk
  have hmx := h.max
  have hs2 : s ≤ 9223372036854775807 := by omega
  have HB := Lib.hid (fun w => bitOf_any s hs2 w)
  have hp0 : 0 < 2 ^ (s % 64) := Nat.pow_pos (by omega)
  have hpl := pow_lt64 (Nat.mod_lt s (show 64 > 0 by omega))
  have H := Lib.hid h
  have HT := Lib.hid hT
  clear h hT
  obtain ⟨a0, ha0⟩ : ∃ a0 : Nat, a0 = 2 ^ (s % 64) - 1 := ⟨_, rfl⟩
  have hsub : IntKind.u64.wrap (((2 ^ (s % 64) : Nat) : Int) - 1) = (a0 : Int) := by
    subst ha0
    generalize 2 ^ (s % 64) = y at *
    rw [IntKind.wrap_u64]
    omega
  have HA := Lib.hid (show a0 = 2 ^ (s - 64 * (s / 64)) - 1 by rw [ha0, show s - 64 * (s / 64) = s % 64 by omega])
  generalize 2 ^ (s % 64) = y0 at *
  clear ha0 hp0 hpl
  rcases Int.lt_or_le x 0 with hn | hn
  · have hs0 : s = 0 := by omega
    have HZ := Lib.hid hs0
    have HB2 := Lib.hid (fun w => show Calls Tryz.prog 58 #[.int .i64 0] w _ from hs0 ▸ HB.out w)
    clear hs hs0 HB
    rename Hid (∀ (w : World), Calls _ _ #[.int .i64 0] w _) => HB
    go_enter Tryz.func51, Tryz.ntmps51
    go_wp2_with (go_at_call 58; refine (HB.out _).mono ?_; rintro e w' ⟨rfl, rfl⟩)
    clear hsub
    go_loop [7, 8] (fun a i => ∃ k : Nat, s / 64 ≤ k ∧ i = .int .i64 (k : Int) ∧ a = .int .u64 ((2 ^ (s - 64 * k) - 1 : Nat) : Int) ∧ ∀ b, s ≤ b → b < 64 * k → b < n → f b ≠ true) (fun _ i => K - (intOf i).toNat)
    case atStart => exact ⟨s / 64, Nat.le_refl _, by rw [HZ.out]; rfl, by rw [← HA.out], fun b h1 h2 => by omega⟩
    case round =>
      obtain ⟨k, hk, rfl, rfl, hpre⟩ := hrel
      have HP := Lib.hid hpre
      clear hpre
      by_cases hlt : k < K
      · have hrc := H.out.row.cell hlt
        have hlt64 : s - 64 * k < 64 := by omega
        have hal : 2 ^ (s - 64 * k) - 1 < 18446744073709551616 := by have := pow_lt64 hlt64; omega
        have han := andNot_u64 _ _ (wd_lt (fun b => f b == true) k) hal
        rw [wd_fro f true s k hlt64, wd_used] at han
        have hYl := wd_lt (fro f true s) k
        have HZ0 := Lib.hid (fun hz b h1 h2 h3 => fro_none (f := f) (u := true) (s := s) (k := k) hz b h1 h2 h3)
        have HZ1 := Lib.hid (fun hz => fro_some (n := n) (f := f) (u := true) (s := s) (k := k) HP.out hz)
        generalize wd (fro f true s) k = Y at *
        generalize wd f k = y at *
        have HA2 := Lib.hid (show 2 ^ (s - 64 * (k + 1)) - 1 = 0 by rw [show s - 64 * (k + 1) = 0 by omega])
        generalize 2 ^ (s - 64 * k) - 1 = aa at *
        clear hlt64 hal
        have hi0 : (0 : Int) ≤ (k : Int) := by omega
        have hi1 : (k : Int) < (K : Int) := by omega
        by_cases hY : Y = 0
        · have HN := Lib.hid (HZ0.out hY)
          have hz1 : ((Y : Int) == 0) = true := by simp; omega
          have hz2 : ((Y : Int) != 0) = false := by simp; omega
          clear hY
          clear HZ0 HZ1 hYl
          go_wp2
          go_round
          case rel =>
            refine ⟨k + 1, by omega, by go_num, by rw [HA2.out]; rfl, fun b h1 h2 h3 => ?_⟩
            by_cases hb : b < 64 * k
            · exact HP.out b h1 hb h3
            · exact HN.out b (by omega) h2 h1
          case measure => simp [intOf]; omega
        · obtain ⟨hnx, hc64⟩ := HZ1.out hY
          have hne : ((Y : Int) == 0) = false := by simp; omega
          have hne2 : ((Y : Int) != 0) = true := by simp; omega
          have HTZ := Lib.hid (tz_any Y hYl hY w HT.out)
          have HX := Lib.hid hnx.next
          clear hnx HZ0 HZ1 hYl hY
          generalize Lib.ctz 64 Y = c at *
          obtain ⟨v, hv⟩ : ∃ v : Nat, v = 64 * k + c := ⟨_, rfl⟩
          rw [← hv] at HX
          have hsum : (k : Int) * 64 + (c : Int) = (v : Int) := by omega
          have HBN := Lib.hid (blockOrNone_any H.out v)
          rw [HX.out] at HBN
          have hv2 : v ≤ 100000 := by omega
          clear hv
          go_wp2_with fail
          refine HTZ.out.mono ?_
          rintro e w' ⟨rfl, rfl⟩
          go_wp2_with fail
          refine HBN.out.mono ?_
          rintro e w' ⟨rfl, rfl⟩
          go_wp2
          go_ret
          exact ⟨rfl, rfl⟩
      · have HX := Lib.hid (Nx.next (.inl ⟨rfl, fun b h1 h2 => HP.out b h1 (by omega) h2⟩ : Nx f true n s (-1)))
        go_wp2
        go_ret
        exact ⟨by rw [← HX.out]; rfl, rfl⟩
  · obtain rfl : x = (s : Int) := by omega
    clear hs
    go_enter Tryz.func51, Tryz.ntmps51
    go_wp2_with (go_at_call 58; refine (HB.out _).mono ?_; rintro e w' ⟨rfl, rfl⟩)
    clear hsub
    go_loop [7, 8] (fun a i => ∃ k : Nat, s / 64 ≤ k ∧ i = .int .i64 (k : Int) ∧ a = .int .u64 ((2 ^ (s - 64 * k) - 1 : Nat) : Int) ∧ ∀ b, s ≤ b → b < 64 * k → b < n → f b ≠ true) (fun _ i => K - (intOf i).toNat)
    case atStart => exact ⟨s / 64, Nat.le_refl _, rfl, by rw [← HA.out], fun b h1 h2 => by omega⟩
    case round =>
      obtain ⟨k, hk, rfl, rfl, hpre⟩ := hrel
      have HP := Lib.hid hpre
      clear hpre
      by_cases hlt : k < K
      · have hrc := H.out.row.cell hlt
        have hlt64 : s - 64 * k < 64 := by omega
        have hal : 2 ^ (s - 64 * k) - 1 < 18446744073709551616 := by have := pow_lt64 hlt64; omega
        have han := andNot_u64 _ _ (wd_lt (fun b => f b == true) k) hal
        rw [wd_fro f true s k hlt64, wd_used] at han
        have hYl := wd_lt (fro f true s) k
        have HZ0 := Lib.hid (fun hz b h1 h2 h3 => fro_none (f := f) (u := true) (s := s) (k := k) hz b h1 h2 h3)
        have HZ1 := Lib.hid (fun hz => fro_some (n := n) (f := f) (u := true) (s := s) (k := k) HP.out hz)
        generalize wd (fro f true s) k = Y at *
        generalize wd f k = y at *
        have HA2 := Lib.hid (show 2 ^ (s - 64 * (k + 1)) - 1 = 0 by rw [show s - 64 * (k + 1) = 0 by omega])
        generalize 2 ^ (s - 64 * k) - 1 = aa at *
        clear hlt64 hal
        have hi0 : (0 : Int) ≤ (k : Int) := by omega
        have hi1 : (k : Int) < (K : Int) := by omega
        by_cases hY : Y = 0
        · have HN := Lib.hid (HZ0.out hY)
          have hz1 : ((Y : Int) == 0) = true := by simp; omega
          have hz2 : ((Y : Int) != 0) = false := by simp; omega
          clear hY
          clear HZ0 HZ1 hYl
          go_wp2
          go_round
          case rel =>
            refine ⟨k + 1, by omega, by go_num, by rw [HA2.out]; rfl, fun b h1 h2 h3 => ?_⟩
            by_cases hb : b < 64 * k
            · exact HP.out b h1 hb h3
            · exact HN.out b (by omega) h2 h1
          case measure => simp [intOf]; omega
        · obtain ⟨hnx, hc64⟩ := HZ1.out hY
          have hne : ((Y : Int) == 0) = false := by simp; omega
          have hne2 : ((Y : Int) != 0) = true := by simp; omega
          have HTZ := Lib.hid (tz_any Y hYl hY w HT.out)
          have HX := Lib.hid hnx.next
          clear hnx HZ0 HZ1 hYl hY
          generalize Lib.ctz 64 Y = c at *
          obtain ⟨v, hv⟩ : ∃ v : Nat, v = 64 * k + c := ⟨_, rfl⟩
          rw [← hv] at HX
          have hsum : (k : Int) * 64 + (c : Int) = (v : Int) := by omega
          have HBN := Lib.hid (blockOrNone_any H.out v)
          rw [HX.out] at HBN
          have hv2 : v ≤ 100000 := by omega
          clear hv
          go_wp2_with fail
          refine HTZ.out.mono ?_
          rintro e w' ⟨rfl, rfl⟩
          go_wp2_with fail
          refine HBN.out.mono ?_
          rintro e w' ⟨rfl, rfl⟩
          go_wp2
          go_ret
          exact ⟨rfl, rfl⟩
      · have HX := Lib.hid (Nx.next (.inl ⟨rfl, fun b h1 h2 => HP.out b h1 (by omega) h2⟩ : Nx f true n s (-1)))
        go_wp2
        go_ret
        exact ⟨by rw [← HX.out]; rfl, rfl⟩
set_option maxRecDepth 100000 in
set_option maxHeartbeats 2000000 in
theorem next_false (h : Mp w p q K C n f) (hT : Tab w) (x : Int) (s : Nat) (hs : (s : Int) = max x 0) (hx : x ≤ 9223372036854775807) :
    Calls Tryz.prog 51 #[.pointer (some ⟨p, 0, none⟩), .int .i64 x, .bool false] w fun e w' => e = .returned (.int .i64 (next f false n s)) ∧ w = w' := by
  have hc1 := h.c1
  have hkk := h.kk
  have hmx := h.max
  have hs2 : s ≤ 9223372036854775807 := by omega
  have HB := Lib.hid (fun w => bitOf_any s hs2 w)
  have hp0 : 0 < 2 ^ (s % 64) := Nat.pow_pos (by omega)
  have hpl := pow_lt64 (Nat.mod_lt s (show 64 > 0 by omega))
  have H := Lib.hid h
  have HT := Lib.hid hT
  clear h hT
  obtain ⟨a0, ha0⟩ : ∃ a0 : Nat, a0 = 2 ^ (s % 64) - 1 := ⟨_, rfl⟩
  have hsub : IntKind.u64.wrap (((2 ^ (s % 64) : Nat) : Int) - 1) = (a0 : Int) := by
    subst ha0
    generalize 2 ^ (s % 64) = y at *
    rw [IntKind.wrap_u64]
    omega
  have HA := Lib.hid (show a0 = 2 ^ (s - 64 * (s / 64)) - 1 by rw [ha0, show s - 64 * (s / 64) = s % 64 by omega])
  generalize 2 ^ (s % 64) = y0 at *
  clear ha0 hp0 hpl
  rcases Int.lt_or_le x 0 with hn | hn
  · have hs0 : s = 0 := by omega
    have HZ := Lib.hid hs0
    have HB2 := Lib.hid (fun w => show Calls Tryz.prog 58 #[.int .i64 0] w _ from hs0 ▸ HB.out w)
    clear hs hs0 HB
    rename Hid (∀ (w : World), Calls _ _ #[.int .i64 0] w _) => HB
    go_enter Tryz.func51, Tryz.ntmps51
    go_wp2_with (go_at_call 58; refine (HB.out _).mono ?_; rintro e w' ⟨rfl, rfl⟩)
    clear hsub
    go_loop [7, 8] (fun a i => ∃ k : Nat, s / 64 ≤ k ∧ i = .int .i64 (k : Int) ∧ a = .int .u64 ((2 ^ (s - 64 * k) - 1 : Nat) : Int) ∧ ∀ b, s ≤ b → b < 64 * k → b < n → f b ≠ false) (fun _ i => K - (intOf i).toNat)
    case atStart => exact ⟨s / 64, Nat.le_refl _, by rw [HZ.out]; rfl, by rw [← HA.out], fun b h1 h2 => by omega⟩
    case round =>
      obtain ⟨k, hk, rfl, rfl, hpre⟩ := hrel
      have HP := Lib.hid hpre
      clear hpre
      by_cases hlt : k < K
      · have hrc := H.out.row.cell hlt
        have hlt64 : s - 64 * k < 64 := by omega
        have hal : 2 ^ (s - 64 * k) - 1 < 18446744073709551616 := by have := pow_lt64 hlt64; omega
        have han := andNot_u64 _ _ (wd_lt (fun b => f b == false) k) hal
        rw [wd_fro f false s k hlt64] at han
        have hnot := not_u64 (wd f k) (wd_lt f k)
        rw [wd_free] at hnot
        have hnot2 : bits BinOp.xor IntKind.u64 (if IntKind.u64.signed = true then -1 else IntKind.u64.max) (wd f k : Int) = (wd (fun b => f b == false) k : Int) := hnot
        generalize wd (fun b => f b == false) k = nx at *
        have hYl := wd_lt (fro f false s) k
        have HZ0 := Lib.hid (fun hz b h1 h2 h3 => fro_none (f := f) (u := false) (s := s) (k := k) hz b h1 h2 h3)
        have HZ1 := Lib.hid (fun hz => fro_some (n := n) (f := f) (u := false) (s := s) (k := k) HP.out hz)
        generalize wd (fro f false s) k = Y at *
        generalize wd f k = y at *
        have HA2 := Lib.hid (show 2 ^ (s - 64 * (k + 1)) - 1 = 0 by rw [show s - 64 * (k + 1) = 0 by omega])
        generalize 2 ^ (s - 64 * k) - 1 = aa at *
        clear hlt64 hal
        have hi0 : (0 : Int) ≤ (k : Int) := by omega
        have hi1 : (k : Int) < (K : Int) := by omega
        by_cases hY : Y = 0
        · have HN := Lib.hid (HZ0.out hY)
          have hz1 : ((Y : Int) == 0) = true := by simp; omega
          have hz2 : ((Y : Int) != 0) = false := by simp; omega
          clear hY
          clear HZ0 HZ1 hYl
          go_wp2
          go_round
          case rel =>
            refine ⟨k + 1, by omega, by go_num, by rw [HA2.out]; rfl, fun b h1 h2 h3 => ?_⟩
            by_cases hb : b < 64 * k
            · exact HP.out b h1 hb h3
            · exact HN.out b (by omega) h2 h1
          case measure => simp [intOf]; omega
        · obtain ⟨hnx, hc64⟩ := HZ1.out hY
          have hne : ((Y : Int) == 0) = false := by simp; omega
          have hne2 : ((Y : Int) != 0) = true := by simp; omega
          have HTZ := Lib.hid (tz_any Y hYl hY w HT.out)
          have HX := Lib.hid hnx.next
          clear hnx HZ0 HZ1 hYl hY
          generalize Lib.ctz 64 Y = c at *
          obtain ⟨v, hv⟩ : ∃ v : Nat, v = 64 * k + c := ⟨_, rfl⟩
          rw [← hv] at HX
          have hsum : (k : Int) * 64 + (c : Int) = (v : Int) := by omega
          have HBN := Lib.hid (blockOrNone_any H.out v)
          rw [HX.out] at HBN
          have hv2 : v ≤ 100000 := by omega
          clear hv
          go_wp2_with fail
          refine HTZ.out.mono ?_
          rintro e w' ⟨rfl, rfl⟩
          go_wp2_with fail
          refine HBN.out.mono ?_
          rintro e w' ⟨rfl, rfl⟩
          go_wp2
          go_ret
          exact ⟨rfl, rfl⟩
      · have HX := Lib.hid (Nx.next (.inl ⟨rfl, fun b h1 h2 => HP.out b h1 (by omega) h2⟩ : Nx f false n s (-1)))
        go_wp2
        go_ret
        exact ⟨by rw [← HX.out]; rfl, rfl⟩
  · obtain rfl : x = (s : Int) := by omega
    clear hs
    go_enter Tryz.func51, Tryz.ntmps51
    go_wp2_with (go_at_call 58; refine (HB.out _).mono ?_; rintro e w' ⟨rfl, rfl⟩)
    clear hsub
    go_loop [7, 8] (fun a i => ∃ k : Nat, s / 64 ≤ k ∧ i = .int .i64 (k : Int) ∧ a = .int .u64 ((2 ^ (s - 64 * k) - 1 : Nat) : Int) ∧ ∀ b, s ≤ b → b < 64 * k → b < n → f b ≠ false) (fun _ i => K - (intOf i).toNat)
    case atStart => exact ⟨s / 64, Nat.le_refl _, rfl, by rw [← HA.out], fun b h1 h2 => by omega⟩
    case round =>
      obtain ⟨k, hk, rfl, rfl, hpre⟩ := hrel
      have HP := Lib.hid hpre
      clear hpre
      by_cases hlt : k < K
      · have hrc := H.out.row.cell hlt
        have hlt64 : s - 64 * k < 64 := by omega
        have hal : 2 ^ (s - 64 * k) - 1 < 18446744073709551616 := by have := pow_lt64 hlt64; omega
        have han := andNot_u64 _ _ (wd_lt (fun b => f b == false) k) hal
        rw [wd_fro f false s k hlt64] at han
        have hnot := not_u64 (wd f k) (wd_lt f k)
        rw [wd_free] at hnot
        have hnot2 : bits BinOp.xor IntKind.u64 (if IntKind.u64.signed = true then -1 else IntKind.u64.max) (wd f k : Int) = (wd (fun b => f b == false) k : Int) := hnot
        generalize wd (fun b => f b == false) k = nx at *
        have hYl := wd_lt (fro f false s) k
        have HZ0 := Lib.hid (fun hz b h1 h2 h3 => fro_none (f := f) (u := false) (s := s) (k := k) hz b h1 h2 h3)
        have HZ1 := Lib.hid (fun hz => fro_some (n := n) (f := f) (u := false) (s := s) (k := k) HP.out hz)
        generalize wd (fro f false s) k = Y at *
        generalize wd f k = y at *
        have HA2 := Lib.hid (show 2 ^ (s - 64 * (k + 1)) - 1 = 0 by rw [show s - 64 * (k + 1) = 0 by omega])
        generalize 2 ^ (s - 64 * k) - 1 = aa at *
        clear hlt64 hal
        have hi0 : (0 : Int) ≤ (k : Int) := by omega
        have hi1 : (k : Int) < (K : Int) := by omega
        by_cases hY : Y = 0
        · have HN := Lib.hid (HZ0.out hY)
          have hz1 : ((Y : Int) == 0) = true := by simp; omega
          have hz2 : ((Y : Int) != 0) = false := by simp; omega
          clear hY
          clear HZ0 HZ1 hYl
          go_wp2
          go_round
          case rel =>
            refine ⟨k + 1, by omega, by go_num, by rw [HA2.out]; rfl, fun b h1 h2 h3 => ?_⟩
            by_cases hb : b < 64 * k
            · exact HP.out b h1 hb h3
            · exact HN.out b (by omega) h2 h1
          case measure => simp [intOf]; omega
        · obtain ⟨hnx, hc64⟩ := HZ1.out hY
          have hne : ((Y : Int) == 0) = false := by simp; omega
          have hne2 : ((Y : Int) != 0) = true := by simp; omega
          have HTZ := Lib.hid (tz_any Y hYl hY w HT.out)
          have HX := Lib.hid hnx.next
          clear hnx HZ0 HZ1 hYl hY
          generalize Lib.ctz 64 Y = c at *
          obtain ⟨v, hv⟩ : ∃ v : Nat, v = 64 * k + c := ⟨_, rfl⟩
          rw [← hv] at HX
          have hsum : (k : Int) * 64 + (c : Int) = (v : Int) := by omega
          have HBN := Lib.hid (blockOrNone_any H.out v)
          rw [HX.out] at HBN
          have hv2 : v ≤ 100000 := by omega
          clear hv
          go_wp2_with fail
          refine HTZ.out.mono ?_
          rintro e w' ⟨rfl, rfl⟩
          go_wp2_with fail
          refine HBN.out.mono ?_
          rintro e w' ⟨rfl, rfl⟩
          go_wp2
          go_ret
          exact ⟨rfl, rfl⟩
      · have HX := Lib.hid (Nx.next (.inl ⟨rfl, fun b h1 h2 => HP.out b h1 (by omega) h2⟩ : Nx f false n s (-1)))
        go_wp2
        go_ret
        exact ⟨by rw [← HX.out]; rfl, rfl⟩
theorem next_any (h : Mp w p q K C n f) (hT : Tab w) (x : Int) (u : Bool) (hx : x ≤ 9223372036854775807) :
    Calls Tryz.prog 51 #[.pointer (some ⟨p, 0, none⟩), .int .i64 x, .bool u] w fun e w' => e = .returned (.int .i64 (next f u n x.toNat)) ∧ w = w' := by
  cases u
  · exact next_false h hT x x.toNat (by omega) hx
  · exact next_true h hT x x.toNat (by omega) hx
end
end Bm
end Go.Proofs.YtilolepbfmcbgaaGreatDoor
/- One block put or dropped; blocks one behind the other. -/
namespace Go.Proofs.YtilolepbfmcbgaaGreatDoor
open Go.RowKit Go.MapKept
namespace Bm
open Pack (Wds Nts)

section
variable {w : World} {p q K C n : Nat} {f : Nat → Bool}
theorem nts_new (w : World) (x : Int) (h1 : -9223372036854775808 ≤ x) (h2 : x ≤ 9223372036854775807) (hq : q < w.heap.size) : ∀ w', Chg q (w.alloc (.cells #[.int .i64 x] 3)) w' → Nts w' (some ⟨w.heap.size, 0, none⟩) [x] := fun w' hc =>
  ⟨fun y hy => by
    obtain rfl : y = x := by simpa using hy
    exact ⟨h1, h2⟩, by simp, fun j hj => by
    obtain rfl : j = 0 := by simpa using hj
    refine ⟨w.heap.size, 0, rfl, Nat.lt_of_lt_of_le (by simp) hc.size, ?_⟩
    rw [hc.cell (p := ⟨w.heap.size, 0 + 0, none⟩) (by simp) (by simp; omega)]
    exact Pack.alloc_cell _ _ _ _⟩
theorem tn_one (n : Nat) (is : Bool) (f : Nat → Bool) (x : Int) : tn n is f [x] = (trn n is f x, if trd n is f x then 1 else 0) := by
  simp [tn, tnp]
theorem put1_any (h : Mp w p q K C n f) (x : Int) (h1 : -9223372036854775808 ≤ x) (h2 : x ≤ 9223372036854775807) (c : Nat) :
    Calls Tryz.prog 24 #[.pointer (some ⟨p, 0, none⟩), .slice (some ⟨w.heap.size, 0, none⟩) 1 c] (w.alloc (.cells #[.int .i64 x] 3)) fun e w' => e = .returned (.int .i64 ((if trd n true f x then 1 else 0 : Nat) : Int)) ∧ Mp w' p q K C n (trn n true f x) ∧ Chg q w w' := by
  have hm := h.keep ((Below.refl _ _).alloc (Nat.le_refl _) (.cells #[.int .i64 x] 3))
  have := put_any hm (some ⟨w.heap.size, 0, none⟩) c [x] (nts_new w x h1 h2 h.row.lt)
  rw [tn_one] at this
  exact this.mono fun e w' ⟨he, hM, hC⟩ => ⟨he, hM, ((Chg.refl q w).alloc _).trans hC⟩
theorem drop1_any (h : Mp w p q K C n f) (x : Int) (h1 : -9223372036854775808 ≤ x) (h2 : x ≤ 9223372036854775807) (c : Nat) :
    Calls Tryz.prog 26 #[.pointer (some ⟨p, 0, none⟩), .slice (some ⟨w.heap.size, 0, none⟩) 1 c] (w.alloc (.cells #[.int .i64 x] 3)) fun e w' => e = .returned (.int .i64 ((if trd n false f x then 1 else 0 : Nat) : Int)) ∧ Mp w' p q K C n (trn n false f x) ∧ Chg q w w' := by
  have hm := h.keep ((Below.refl _ _).alloc (Nat.le_refl _) (.cells #[.int .i64 x] 3))
  have := drop_any hm (some ⟨w.heap.size, 0, none⟩) c [x] (nts_new w x h1 h2 h.row.lt)
  rw [tn_one] at this
  exact this.mono fun e w' ⟨he, hM, hC⟩ => ⟨he, hM, ((Chg.refl q w).alloc _).trans hC⟩

/-- it has them from s on, ahead of e, too -/
def fill (f : Nat → Bool) (s e b : Nat) : Bool := f b || decide (s ≤ b ∧ b < e)
theorem trn_in {b : Nat} (hb : b < n) (is : Bool) : trn n is f (b : Int) = upd f b is := by
  funext x
  unfold trn
  split
  · rw [Int.toNat_natCast]
  · rename_i h
    unfold trd at h
    rw [Int.toNat_natCast, decide_eq_true (by omega : (0 : Int) ≤ (b : Int) ∧ (b : Int) < (n : Int))] at h
    have h' : f b = is := by simpa using h
    unfold upd
    split
    · rename_i e; rw [e, h']
    · rfl
theorem fill_step (s b : Nat) (hs : s ≤ b) : upd (fill f s b) b true = fill f s (b + 1) := by
  funext x
  unfold upd fill
  by_cases hx : x = b
  · subst hx
    rw [if_pos rfl, decide_eq_true (by omega)]
    simp
  · rw [if_neg hx]
    have : decide (s ≤ x ∧ x < b) = decide (s ≤ x ∧ x < b + 1) := by rw [decide_eq_decide]; omega
    rw [this]
theorem fill_none (s : Nat) : fill f s s = f := by
  funext x
  unfold fill
  rw [decide_eq_false (by omega)]
  simp
/-- whether they may be had -/
def rgb (n : Nat) (f : Nat → Bool) (s c : Int) : Bool := decide (0 ≤ s ∧ s < (n : Int) ∧ 1 ≤ c ∧ c ≤ (n : Int) - s) && decide (next f true n s.toNat = -1 ∨ s + c ≤ next f true n s.toNat)
theorem rgb_iff {s c : Int} : rgb n f s c = true ↔ (0 ≤ s ∧ 1 ≤ c ∧ s + c ≤ (n : Int)) ∧ ∀ b : Nat, s ≤ (b : Int) → (b : Int) < s + c → f b = false := by
  unfold rgb
  rw [Bool.and_eq_true, decide_eq_true_eq, decide_eq_true_eq]
  constructor
  · rintro ⟨h, h2⟩
    refine ⟨by omega, fun b h3 h4 => ?_⟩
    rcases next_is f true n s.toNat with ⟨e, g⟩ | ⟨d, e, _, _, _, g⟩
    · have := g b (by omega) (by omega)
      simpa using this
    · have := g b (by omega) (by omega)
      simpa using this
  · rintro ⟨h, g⟩
    refine ⟨by omega, ?_⟩
    rcases next_is f true n s.toNat with ⟨e, _⟩ | ⟨d, e, h1, h2, h3, _⟩
    · exact .inl e
    · refine .inr ?_
      rcases Int.lt_or_le (next f true n s.toNat) (s + c) with hl | hl
      · have := g d (by omega) (by omega)
        rw [h3] at this
        cases this
      · exact hl
/-- what is there behind it -/
def rgf (n : Nat) (f : Nat → Bool) (s c : Int) : Nat → Bool := if rgb n f s c then fill f s.toNat (s + c).toNat else f

set_option maxRecDepth 100000 in
set_option maxHeartbeats 2000000 in
theorem range_any (h : Mp w p q K C n f) (hT : Tab w) (s c : Int) (hs1 : -9223372036854775808 ≤ s) (hs2 : s ≤ 9223372036854775807) (hc1 : -9223372036854775808 ≤ c) (hc2 : c ≤ 9223372036854775807) :
    Calls Tryz.prog 144 #[.pointer (some ⟨p, 0, none⟩), .int .i64 s, .int .i64 c] w fun e w' => e = .returned (.bool (rgb n f s c)) ∧ Mp w' p q K C n (rgf n f s c) ∧ Chg q w w' := by
  have hmx := h.max
  have hc0 := h.c0
  have H := Lib.hid h
  clear h
  unfold rgf
  by_cases hin : s < 0 ∨ (n : Int) ≤ s
  · have hr : rgb n f s c = false := by unfold rgb; rw [decide_eq_false (by omega)]; rfl
    rw [hr]
    have HI := Lib.hid (isBlock_no H.out s hin)
    clear hin hr hT
    go_enter Tryz.func144, Tryz.ntmps144
    go_wp2_with fail
    refine HI.out.mono ?_
    rintro e w' ⟨rfl, rfl⟩
    go_wp2
    go_ret
    exact ⟨rfl, H.out, Chg.refl _ _⟩
  · obtain ⟨a, rfl⟩ := Int.eq_ofNat_of_zero_le (show 0 ≤ s by omega)
    have ha : a < n := by omega
    have HI := Lib.hid (isBlock_yes H.out a ha)
    clear hin
    by_cases hcc : 1 ≤ c ∧ c ≤ (n : Int) - (a : Int)
    · obtain ⟨k, rfl⟩ := Int.eq_ofNat_of_zero_le (show 0 ≤ c by omega)
      have hk1 : ¬ (k : Int) < 1 := by omega
      have hk2 : ¬ (n : Int) - (a : Int) < (k : Int) := by omega
      have hx := next_lt f true n a
      have HN := Lib.hid (next_any H.out hT (a : Int) true (by omega))
      rw [Int.toNat_natCast] at HN
      have hrg : rgb n f (a : Int) (k : Int) = decide (next f true n a = -1 ∨ (a : Int) + (k : Int) ≤ next f true n a) := by
        unfold rgb; rw [decide_eq_true (by omega), Int.toNat_natCast]; rfl
      rw [hrg]
      clear hrg hT
      generalize next f true n a = r at *
      have hsum : (a : Int) + (k : Int) ≤ 65534 := by omega
      by_cases hr : r = -1 ∨ (a : Int) + (k : Int) ≤ r
      · rw [decide_eq_true hr, if_pos rfl]
        have HE := Lib.hid (show ((a : Int) + (k : Int)).toNat = a + k by omega)
        go_enter Tryz.func144, Tryz.ntmps144
        go_wp2_with fail
        refine HI.out.mono ?_
        rintro e w' ⟨rfl, rfl⟩
        go_wp2_with fail
        refine HN.out.mono ?_
        rintro e w' ⟨rfl, rfl⟩
        by_cases hm1 : r = -1
        · subst hm1
          clear hr hx
          go_wp2
          go_loopw [9] (fun i wr => ∃ b : Nat, a ≤ b ∧ b ≤ a + k ∧ i = .int .i64 (b : Int) ∧ Mp wr p q K C n (fill f a b) ∧ Chg q w wr) (fun i _ => a + k - (intOf i).toNat)
          case atStart => exact ⟨a, Nat.le_refl _, by omega, rfl, by rw [fill_none]; exact H.out, Chg.refl _ _⟩
          case round =>
            obtain ⟨b, hb1, hb2, rfl, hM, hC⟩ := hrel
            by_cases hlt : b < a + k
            · have hb0 : (b : Int) < (a : Int) + (k : Int) := by omega
              have hp := put1_any hM (b : Int) (by omega) (by omega) 1
              rw [trn_in (by omega : b < n), fill_step a b hb1] at hp
              have HP := Lib.hid hp
              have HC := Lib.hid hC
              clear hM hC hp
              go_wp2_with fail
              refine HP.out.mono ?_
              rintro e w' ⟨rfl, hM, hC⟩
              have HM2 := Lib.hid hM
              have HC2 := Lib.hid (HC.out.trans hC)
              clear hM hC
              go_wp2
              refine ⟨⟨b + 1, by omega, by omega, by go_num, HM2.out, HC2.out⟩, by simp [intOf]; omega⟩
            · obtain rfl : b = a + k := by omega
              have HM := Lib.hid hM
              have HC := Lib.hid hC
              clear hM hC
              have hb0 : ¬ ((a + k : Nat) : Int) < (a : Int) + (k : Int) := by omega
              go_wp2
              go_ret
              exact ⟨rfl, by rw [HE.out]; exact HM.out, HC.out⟩
        · have hm2 : ¬ r < (a : Int) + (k : Int) := by omega
          clear hr hx
          go_wp2
          go_loopw [9] (fun i wr => ∃ b : Nat, a ≤ b ∧ b ≤ a + k ∧ i = .int .i64 (b : Int) ∧ Mp wr p q K C n (fill f a b) ∧ Chg q w wr) (fun i _ => a + k - (intOf i).toNat)
          case atStart => exact ⟨a, Nat.le_refl _, by omega, rfl, by rw [fill_none]; exact H.out, Chg.refl _ _⟩
          case round =>
            obtain ⟨b, hb1, hb2, rfl, hM, hC⟩ := hrel
            by_cases hlt : b < a + k
            · have hb0 : (b : Int) < (a : Int) + (k : Int) := by omega
              have hp := put1_any hM (b : Int) (by omega) (by omega) 1
              rw [trn_in (by omega : b < n), fill_step a b hb1] at hp
              have HP := Lib.hid hp
              have HC := Lib.hid hC
              clear hM hC hp
              go_wp2_with fail
              refine HP.out.mono ?_
              rintro e w' ⟨rfl, hM, hC⟩
              have HM2 := Lib.hid hM
              have HC2 := Lib.hid (HC.out.trans hC)
              clear hM hC
              go_wp2
              refine ⟨⟨b + 1, by omega, by omega, by go_num, HM2.out, HC2.out⟩, by simp [intOf]; omega⟩
            · obtain rfl : b = a + k := by omega
              have HM := Lib.hid hM
              have HC := Lib.hid hC
              clear hM hC
              have hb0 : ¬ ((a + k : Nat) : Int) < (a : Int) + (k : Int) := by omega
              go_wp2
              go_ret
              exact ⟨rfl, by rw [HE.out]; exact HM.out, HC.out⟩
      · rw [decide_eq_false hr, if_neg (by simp)]
        have hm1 : ¬ r = -1 := by omega
        have hm2 : r < (a : Int) + (k : Int) := by omega
        clear hr hx
        go_enter Tryz.func144, Tryz.ntmps144
        go_wp2_with fail
        refine HI.out.mono ?_
        rintro e w' ⟨rfl, rfl⟩
        go_wp2_with fail
        refine HN.out.mono ?_
        rintro e w' ⟨rfl, rfl⟩
        go_wp2
        go_ret
        exact ⟨rfl, H.out, Chg.refl _ _⟩
    · have hr : rgb n f (a : Int) c = false := by unfold rgb; rw [decide_eq_false (by omega)]; rfl
      rw [hr]
      by_cases hk1 : c < 1
      · clear hr hT hcc
        go_enter Tryz.func144, Tryz.ntmps144
        go_wp2_with fail
        refine HI.out.mono ?_
        rintro e w' ⟨rfl, rfl⟩
        go_wp2
        go_ret
        exact ⟨rfl, H.out, Chg.refl _ _⟩
      · have hk2 : (n : Int) - (a : Int) < c := by omega
        clear hr hT hcc
        go_enter Tryz.func144, Tryz.ntmps144
        go_wp2_with fail
        refine HI.out.mono ?_
        rintro e w' ⟨rfl, rfl⟩
        go_wp2
        go_ret
        exact ⟨rfl, H.out, Chg.refl _ _⟩
end
end Bm
end Go.Proofs.YtilolepbfmcbgaaGreatDoor
/- Free runs, without memory: those of a map, the first that is long enough, those that are taken. -/
namespace Go.Proofs.YtilolepbfmcbgaaGreatDoor
namespace Rn
open Bm

abbrev Run := Nat × Nat

/-- the free runs from block s on -/
inductive From (f : Nat → Bool) (n : Nat) : Nat → List Run → Prop where
  | none {s : Nat} : (∀ c, s ≤ c → c < n → f c = true) → From f n s []
  | some {s a e : Nat} {l : List Run} : s ≤ a → a < e → e ≤ n → (∀ c, s ≤ c → c < a → f c = true) → (∀ c, a ≤ c → c < e → f c = false) → (e = n ∨ f e = true) → From f n e l → From f n s ((a, e - a) :: l)

theorem next_or (f : Nat → Bool) (u : Bool) (n s : Nat) : (next f u n s = -1 ∧ ∀ c, s ≤ c → c < n → f c ≠ u) ∨ ∃ d : Nat, next f u n s = (d : Int) ∧ s ≤ d ∧ d < n ∧ f d = u ∧ ∀ c, s ≤ c → c < d → f c ≠ u := by
  rcases next_is f u n s with ⟨e, g⟩ | ⟨d, e, h1, h2, h3, h4⟩
  · exact .inl ⟨e, fun c h1 h2 => g c h1 h2⟩
  · exact .inr ⟨d, e, h1, h2, h3, fun c h1 h2 => h4 c h1 h2⟩

theorem from_exists (f : Nat → Bool) (n : Nat) : ∀ k s, n - s ≤ k → ∃ l, From f n s l
  | 0, s, h => ⟨[], .none fun c h1 h2 => by omega⟩
  | k + 1, s, h => by
    rcases next_or f false n s with ⟨_, g⟩ | ⟨a, _, h1, h2, h3, h4⟩
    · exact ⟨[], .none fun c h1 h2 => by simpa using g c h1 h2⟩
    · rcases next_or f true n a with ⟨_, g⟩ | ⟨e, _, k1, k2, k3, k4⟩
      · obtain ⟨l, hl⟩ := from_exists f n k n (by omega)
        exact ⟨_, .some h1 h2 (Nat.le_refl _) (fun c x y => by simpa using h4 c x y) (fun c x y => by simpa using g c x y) (.inl rfl) hl⟩
      · have hne : a ≠ e := fun e' => by rw [e', k3] at h3; cases h3
        obtain ⟨l, hl⟩ := from_exists f n k e (by omega)
        exact ⟨_, .some h1 (by omega) (by omega) (fun c x y => by simpa using h4 c x y) (fun c x y => by simpa using k4 c x y) (.inr k3) hl⟩

/-- where what is asked of the map stands, if the runs are none -/
theorem From.next_none {f : Nat → Bool} {n s : Nat} (h : From f n s []) : next f false n s = -1 := by
  cases h with
  | none g =>
    rcases next_or f false n s with ⟨e, _⟩ | ⟨a, _, h1, h2, h3, _⟩
    · exact e
    · rw [g a h1 h2] at h3; cases h3
theorem From.next_some {f : Nat → Bool} {n s a c : Nat} {l : List Run} (h : From f n s ((a, c) :: l)) :
    next f false n s = (a : Int) ∧ s ≤ a ∧ 1 ≤ c ∧ a + c ≤ n ∧ ((next f true n a = -1 ∧ a + c = n) ∨ next f true n a = ((a + c : Nat) : Int)) ∧ From f n (a + c) l ∧ (∀ d, a ≤ d → d < a + c → f d = false) ∧ (a + c = n ∨ f (a + c) = true) ∧ (∀ d, s ≤ d → d < a → f d = true) := by
  generalize hc : (a, c) :: l = L at h
  cases h with
  | none _ => cases hc
  | @some s' a' e l' h1 h2 h3 h4 h5 h6 h7 =>
    injection hc with hc hl
    injection hc with ha hc
    subst ha hc hl
    have he : a + (e - a) = e := by omega
    rw [he]
    refine ⟨?_, h1, by omega, h3, ?_, h7, h5, h6, h4⟩
    · rcases next_or f false n s with ⟨_, g⟩ | ⟨d, e1, k1, k2, k3, k4⟩
      · exact absurd (h5 a (Nat.le_refl _) h2) (g a h1 (by omega))
      · rw [e1]
        rcases Nat.lt_trichotomy d a with x | x | x
        · rw [h4 d k1 x] at k3; cases k3
        · rw [x]
        · exact absurd (h5 a (Nat.le_refl _) h2) (k4 a h1 x)
    · rcases next_or f true n a with ⟨e1, g⟩ | ⟨d, e1, k1, k2, k3, k4⟩
      · refine .inl ⟨e1, ?_⟩
        rcases h6 with x | x
        · exact x
        · rcases Nat.lt_or_ge e n with y | y
          · exact absurd x (g e (by omega) y)
          · omega
      · refine .inr ?_
        rw [e1]
        rcases Nat.lt_trichotomy d e with x | x | x
        · rw [h5 d k1 x] at k3; cases k3
        · rw [x]
        · rcases h6 with y | y
          · omega
          · exact absurd y (k4 e (by omega) x)

/-- the runs as the document finds them, block by block -/
def ext (l : List Run) (b : Nat) : List Run :=
  match l.getLast? with
  | some r => if r.1 + r.2 = b then l.dropLast ++ [(r.1, r.2 + 1)] else l ++ [(b, 1)]
  | none => l ++ [(b, 1)]
def frs (f : Nat → Bool) : Nat → List Run
  | 0 => []
  | b + 1 => if f b then frs f b else ext (frs f b) b

theorem ext_end {l : List Run} {r : Run} {b : Nat} (h : r.1 + r.2 = b) : ext (l ++ [r]) b = l ++ [(r.1, r.2 + 1)] := by
  unfold ext
  simp [h]
theorem ext_apart {l : List Run} {b : Nat} (h : ∀ r, l.getLast? = some r → r.1 + r.2 ≠ b) : ext l b = l ++ [(b, 1)] := by
  unfold ext
  split
  · rename_i r hr
    rw [if_neg (h r hr)]
  · rfl
/-- each run ends by then -/
theorem frs_ends (f : Nat → Bool) : ∀ b, ∀ r ∈ frs f b, 1 ≤ r.2 ∧ r.1 + r.2 ≤ b
  | 0 => fun r hr => by cases hr
  | b + 1 => fun r hr => by
    have ih := frs_ends f b
    rw [frs] at hr
    split at hr
    · have := ih r hr
      omega
    · unfold ext at hr
      split at hr
      · rename_i q hq
        have hqm := ih q (List.mem_of_getLast? hq)
        split at hr
        · rcases List.mem_append.1 hr with x | x
          · have := ih r (List.dropLast_subset _ x)
            omega
          · obtain rfl : r = (q.1, q.2 + 1) := by simpa using x
            simp only
            omega
        · rcases List.mem_append.1 hr with x | x
          · have := ih r x
            omega
          · obtain rfl : r = (b, 1) := by simpa using x
            simp
      · rcases List.mem_append.1 hr with x | x
        · have := ih r x
          omega
        · obtain rfl : r = (b, 1) := by simpa using x
          simp
theorem frs_skip {f : Nat → Bool} {s : Nat} : ∀ d, s ≤ d → (∀ c, s ≤ c → c < d → f c = true) → frs f d = frs f s
  | 0, h, _ => by obtain rfl : s = 0 := by omega
                  rfl
  | d + 1, h, g => by
    by_cases e : s = d + 1
    · rw [e]
    · rw [frs, g d (by omega) (by omega), if_pos rfl]
      exact frs_skip d (by omega) (fun c h1 h2 => g c h1 (by omega))
theorem frs_run {f : Nat → Bool} {a : Nat} (hl : ∀ r, (frs f a).getLast? = some r → r.1 + r.2 ≠ a) : ∀ e, a < e → (∀ c, a ≤ c → c < e → f c = false) → frs f e = frs f a ++ [(a, e - a)]
  | 0, h, _ => by omega
  | e + 1, h, g => by
    rw [frs, g e (by omega) (by omega), if_neg (by simp)]
    by_cases hx : a = e
    · subst hx
      rw [ext_apart hl, show a + 1 - a = 1 by omega]
    · rw [frs_run hl e (by omega) (fun c h1 h2 => g c h1 (by omega)), ext_end (by simp; omega), show e + 1 - a = e - a + 1 by omega]
theorem frs_from {f : Nat → Bool} {n s : Nat} {l : List Run} (h : From f n s l) : s ≤ n → (f s = false → s < n → ∀ r, (frs f s).getLast? = some r → r.1 + r.2 ≠ s) → frs f n = frs f s ++ l := by
  induction h with
  | none g =>
    intro hs _
    rw [List.append_nil]
    exact frs_skip _ hs g
  | @some s a e l h1 h2 h3 h4 h5 h6 h7 ih =>
    intro hs hC
    have hsk := frs_skip a h1 h4
    have hrun := frs_run (f := f) (a := a) (fun r hr => by
      rw [hsk] at hr
      by_cases hx : s = a
      · subst hx
        exact hC (h5 s (Nat.le_refl _) h2) (by omega) r hr
      · have := (frs_ends f s r (List.mem_of_getLast? hr)).2
        omega) e h2 h5
    rw [ih h3 (fun hf hlt => by
      rcases h6 with x | x
      · omega
      · rw [x] at hf; cases hf), hrun, hsk]
    simp
theorem from_frs (f : Nat → Bool) (n : Nat) : From f n 0 (frs f n) := by
  obtain ⟨l, hl⟩ := from_exists f n n 0 (by omega)
  have := frs_from hl (Nat.zero_le _) (fun _ _ r hr => by simp [frs] at hr)
  rw [this]
  exact hl

/-- the first that is long enough, cut -/
def fit (l : List Run) (c : Nat) : Option Run := (l.find? fun r => decide (c ≤ r.2)).map fun r => (r.1, c)
theorem fit_nil (c : Nat) : fit [] c = none := rfl
theorem fit_yes {a k c : Nat} {l : List Run} (h : c ≤ k) : fit ((a, k) :: l) c = some (a, c) := by simp [fit, h]
theorem fit_no {a k c : Nat} {l : List Run} (h : ¬ c ≤ k) : fit ((a, k) :: l) c = fit l c := by simp [fit, h]

/-- runs from the first one on, until there are so many -/
def cut : List Run → Nat → List Run
  | [], _ => []
  | r :: l, c => if c = 0 then [] else (r.1, min r.2 c) :: cut l (c - min r.2 c)
theorem cut_zero (l : List Run) : cut l 0 = [] := by cases l <;> simp [cut]
def tot (l : List Run) : Nat := (l.map (·.2)).sum
theorem tot_cons (r : Run) (l : List Run) : tot (r :: l) = r.2 + tot l := by simp [tot]
theorem tot_snoc (r : Run) (l : List Run) : tot (l ++ [r]) = tot l + r.2 := by simp [tot]
theorem tot_cut : ∀ (l : List Run) (c : Nat), c ≤ tot l → tot (cut l c) = c
  | [], c, h => by simp [tot, cut] at *; omega
  | r :: l, c, h => by
    rw [tot_cons] at h
    rw [cut]
    split
    · rename_i e; rw [e]; rfl
    · rw [tot_cons, tot_cut l _ (by omega)]
      simp only
      omega
theorem cut_append : ∀ (l l' : List Run) (c : Nat), cut (l ++ l') c = cut l c ++ cut l' (c - tot (cut l c))
  | [], l', c => by simp [cut, tot]
  | r :: l, l', c => by
    rw [List.cons_append, cut, cut]
    split
    · rename_i e
      simp [e, cut_zero]
    · rw [cut_append l l', tot_cons, List.cons_append]
      simp only
      rw [show c - min r.2 c - tot (cut l (c - min r.2 c)) = c - (min r.2 c + tot (cut l (c - min r.2 c))) by omega]
theorem cut_take {l : List Run} {k c : Nat} (h : k < l.length) : cut (l.take (k + 1)) c = cut (l.take k) c ++ (if c - tot (cut (l.take k) c) = 0 then [] else [(l[k].1, min l[k].2 (c - tot (cut (l.take k) c)))]) := by
  rw [List.take_succ_eq_append_getElem h, cut_append]
  congr 1
theorem cut_full {l : List Run} {k c : Nat} (h : c - tot (cut (l.take k) c) = 0) : cut l c = cut (l.take k) c := by
  conv => lhs; rw [← List.take_append_drop k l, cut_append, h, cut_zero, List.append_nil]
theorem cut_le : ∀ (l : List Run) (c : Nat), tot (cut l c) ≤ c ∧ (cut l c).length ≤ l.length
  | [], c => by simp [cut, tot]
  | r :: l, c => by
    rw [cut]
    split
    · simp [tot]
    · rw [tot_cons]
      have := cut_le l (c - min r.2 c)
      simp only [List.length_cons]
      omega
/-- what a Take is of -/
def cho (l : List Run) (c : Nat) : List Run := if 1 ≤ c then (match fit l c with | some r => [r] | none => cut l c) else []
theorem tot_cho (l : List Run) (c : Nat) (h : c ≤ tot l) : tot (cho l c) = c := by
  unfold cho
  split
  · split
    · rename_i r hr
      unfold fit at hr
      obtain ⟨x, _, e⟩ := Option.map_eq_some_iff.1 hr
      rw [← e]
      simp [tot]
    · exact tot_cut l c h
  · simp [tot]; omega
/-- runs that rise, apart, of free blocks -/
def Up (f : Nat → Bool) (n : Nat) : Nat → List Run → Prop
  | _, [] => True
  | s, r :: l => s ≤ r.1 ∧ 1 ≤ r.2 ∧ r.1 + r.2 ≤ n ∧ (∀ d, r.1 ≤ d → d < r.1 + r.2 → f d = false) ∧ Up f n (r.1 + r.2 + 1) l
theorem Up.less {f : Nat → Bool} {n : Nat} : ∀ {s t : Nat} {l : List Run}, Up f n s l → t ≤ s → Up f n t l
  | _, _, [], _, _ => trivial
  | _, _, _ :: _, h, ht => ⟨Nat.le_trans ht h.1, h.2⟩
theorem From.up {f : Nat → Bool} {n s : Nat} {l : List Run} (h : From f n s l) : Up f n s l ∧ ((s = n ∨ f s = true) → Up f n (s + 1) l) := by
  induction h with
  | none _ => exact ⟨trivial, fun _ => trivial⟩
  | @some s a e l h1 h2 h3 h4 h5 h6 h7 ih =>
    have he : a + (e - a) = e := by omega
    refine ⟨⟨h1, by simp only; omega, by simp only; omega, fun d k1 k2 => h5 d k1 (by simp only at k2; omega), by simp only; rw [he]; exact ih.2 h6⟩, fun hs => ⟨?_, by simp only; omega, by simp only; omega, fun d k1 k2 => h5 d k1 (by simp only at k2; omega), by simp only; rw [he]; exact ih.2 h6⟩⟩
    have hne : s ≠ a := fun x => by
      subst x
      rcases hs with y | y
      · omega
      · rw [h5 s (Nat.le_refl _) h2] at y; cases y
    simp only
    omega
theorem Up.cut {f : Nat → Bool} {n : Nat} : ∀ {s c : Nat} {l : List Run}, Up f n s l → Up f n s (cut l c)
  | _, _, [], _ => trivial
  | s, c, r :: l, h => by
    rw [Rn.cut]
    split
    · trivial
    · obtain ⟨h1, h2, h3, h4, h5⟩ := h
      exact ⟨h1, by simp only; omega, by simp only; omega, fun d k1 k2 => h4 d k1 (by simp only at k2; omega), (Up.cut h5).less (by simp only; omega)⟩
theorem Up.fit {f : Nat → Bool} {n c : Nat} (hc : 1 ≤ c) : ∀ {s : Nat} {l : List Run} {r : Run}, Up f n s l → fit l c = some r → Up f n s [r]
  | _, [], _, _, hr => by cases hr
  | s, (a, k) :: l, r, h, hr => by
    obtain ⟨h1, h2, h3, h4, h5⟩ := h
    by_cases hk : c ≤ k
    · rw [fit_yes hk] at hr
      injection hr with hr
      subst hr
      exact ⟨h1, hc, by simp only at *; omega, fun d k1 k2 => h4 d k1 (by simp only at *; omega), trivial⟩
    · rw [fit_no hk] at hr
      exact (Up.fit hc h5 hr).less (by simp only at *; omega)
theorem up_cho (f : Nat → Bool) (n c : Nat) : Up f n 0 (cho (frs f n) c) := by
  have h := (from_frs f n).up.1
  unfold cho
  split
  · rename_i hc
    split
    · rename_i r hr
      exact Up.fit hc h hr
    · exact h.cut
  · trivial
/-- the map that has these, too -/
def fl (f : Nat → Bool) (l : List Run) : Nat → Bool := l.foldl (fun g r => fill g r.1 (r.1 + r.2)) f
theorem fl_take {f : Nat → Bool} {l : List Run} {k : Nat} (h : k < l.length) : fl f (l.take (k + 1)) = fill (fl f (l.take k)) l[k].1 (l[k].1 + l[k].2) := by
  unfold fl
  rw [List.take_succ_eq_append_getElem h, List.foldl_append]
  rfl
/-- an earlier run has none of what is behind it -/
theorem fl_behind {n : Nat} : ∀ {l : List Run} {f g : Nat → Bool} {s k : Nat}, Up f n s l → (hk : k < l.length) → (∀ d, s ≤ d → g d = f d) → ∀ d, l[k].1 ≤ d → fl g (l.take k) d = f d
  | r :: l, f, g, s, 0, h, _, hg, d, hd => hg d (by have := h.1; simp only [List.getElem_cons_zero] at hd; omega)
  | r :: l, f, g, s, k + 1, h, hk, hg, d, hd => by
    obtain ⟨h1, h2, h3, h4, h5⟩ := h
    simp only [List.getElem_cons_succ] at hd
    refine fl_behind (g := fill g r.1 (r.1 + r.2)) h5 (by simpa using hk) (fun x hx => ?_) d hd
    unfold fill
    rw [decide_eq_false (by omega), hg x (by omega)]
    simp
theorem Up.get {f : Nat → Bool} {n : Nat} : ∀ {l : List Run} {s k : Nat}, Up f n s l → (hk : k < l.length) → s ≤ l[k].1 ∧ 1 ≤ l[k].2 ∧ l[k].1 + l[k].2 ≤ n ∧ (∀ d, l[k].1 ≤ d → d < l[k].1 + l[k].2 → f d = false)
  | r :: l, s, 0, h, _ => ⟨h.1, h.2.1, h.2.2.1, h.2.2.2.1⟩
  | r :: l, s, k + 1, h, hk => by
    have := Up.get (k := k) h.2.2.2.2 (by simpa using hk)
    have h1 := h.1
    simp only [List.getElem_cons_succ]
    exact ⟨by omega, this.2⟩
theorem Up.next {f : Nat → Bool} {n : Nat} : ∀ {l : List Run} {s k : Nat}, Up f n s l → (hk : k + 1 < l.length) → (l[k]'(by omega)).1 + (l[k]'(by omega)).2 < l[k + 1].1
  | r :: q :: l, s, 0, h, _ => by
    have := h.2.2.2.2.1
    simp only [List.getElem_cons_zero, List.getElem_cons_succ]
    omega
  | r :: l, s, k + 1, h, hk => by
    simp only [List.getElem_cons_succ]
    exact Up.next h.2.2.2.2 (by simpa using hk)
/-- it may be had, behind those ahead of it -/
theorem fl_range {f : Nat → Bool} {n k : Nat} {l : List Run} (h : Up f n 0 l) (hk : k < l.length) : rgf n (fl f (l.take k)) (l[k].1 : Int) (l[k].2 : Int) = fl f (l.take (k + 1)) := by
  obtain ⟨_, h2, h3, h4⟩ := h.get hk
  have hb := fl_behind h hk (fun _ _ => rfl)
  have : rgb n (fl f (l.take k)) (l[k].1 : Int) (l[k].2 : Int) = true := rgb_iff.2 ⟨by omega, fun b x y => by
    rw [hb b (by omega)]
    exact h4 b (by omega) (by omega)⟩
  unfold rgf
  rw [this, if_pos rfl, fl_take hk, Int.toNat_natCast, show ((l[k].1 : Int) + (l[k].2 : Int)).toNat = l[k].1 + l[k].2 by omega]
/-- how many are free -/
theorem tot_from {f : Nat → Bool} {n s : Nat} {l : List Run} (h : From f n s l) : s ≤ n → tot l + cnt f n + s = n + cnt f s := by
  induction h with
  | @none s g =>
    intro hs
    have : ∀ k, s + k ≤ n → cnt f (s + k) = cnt f s + k := fun k => by
      induction k with
      | zero => intro _; rfl
      | succ k ih =>
        intro hk
        rw [← Nat.add_assoc, cnt, ih (by omega), g (s + k) (by omega) (by omega)]
        simp
        omega
    have := this (n - s) (by omega)
    rw [show s + (n - s) = n by omega] at this
    simp only [tot, List.map_nil, List.sum_nil]
    omega
  | @some s a e l h1 h2 h3 h4 h5 h6 h7 ih =>
    intro hs
    have x1 : ∀ k, s + k ≤ a → cnt f (s + k) = cnt f s + k := fun k => by
      induction k with
      | zero => intro _; rfl
      | succ k ih =>
        intro hk
        rw [← Nat.add_assoc, cnt, ih (by omega), h4 (s + k) (by omega) (by omega)]
        simp
        omega
    have x1 := x1 (a - s) (by omega)
    rw [show s + (a - s) = a by omega] at x1
    have x2 : ∀ k, a + k ≤ e → cnt f (a + k) = cnt f a := fun k => by
      induction k with
      | zero => intro _; rfl
      | succ k ih =>
        intro hk
        rw [← Nat.add_assoc, cnt, ih (by omega), h5 (a + k) (by omega) (by omega)]
        simp
    have x2 := x2 (e - a) (by omega)
    rw [show a + (e - a) = e by omega] at x2
    have := ih h3
    rw [tot_cons]
    simp only
    omega
theorem tot_frs (f : Nat → Bool) (n : Nat) : tot (frs f n) = n - cnt f n := by
  have := tot_from (from_frs f n) (Nat.zero_le _)
  rw [show cnt f 0 = 0 from rfl] at this
  omega
end Rn
end Go.Proofs.YtilolepbfmcbgaaGreatDoor
/- A map's words, a copy, whether two are the same. -/
namespace Go.Proofs.YtilolepbfmcbgaaGreatDoor
open Go.RowKit Go.MapKept
namespace Bm
open Pack (Wds Nts u64_info)

theorem wds_news {W : World} {ad : Addr} {l : List Nat} (h : Wds W (some ad) l) : ∀ j u, (Pack.u64s l)[j]? = some u → W.cell? (ad.add j) = some u := by
  intro j u hu
  have hj : j < l.length := by
    have := (List.getElem?_eq_some_iff.1 hu).1
    simpa [Pack.u64s] using this
  obtain ⟨b, o, e, _, hc⟩ := h.at' j hj
  injection e with e
  subst e
  rw [Go.WideShapes.add_plain, hc, ← hu]
  simp [Pack.u64s, List.getElem?_eq_getElem hj]
theorem u64s_one (l : List Nat) : ∀ u ∈ Pack.u64s l, u.oneCell' = true := by
  intro u hu
  obtain ⟨x, _, rfl⟩ := List.mem_map.1 hu
  rfl
/-- a copy of words: a row of the call's own -/
theorem copy_row {W : World} {A : Option Addr} {l : List Nat} (c : Nat) (h : Wds W A l) (hA : A = none → c = 0) (hl : l.length ≤ 1000000) :
    ∃ (g gc : Nat) (w' : World), (Builtin.append_ #[22, 22] 22 #[.slice (some ⟨W.heap.size, 0, none⟩) 0 0, .slice A l.length c]).run Tryz.prog (W.alloc (.cells #[] 121)) = .ok (.slice (some ⟨g, 0, none⟩) l.length gc) w' ∧
      l.length ≤ gc ∧ W.heap.size ≤ g ∧ Row w' g 121 l.length (fun k => .int .u64 ((l.getD k 0 : Nat) : Int)) ∧ Below W.heap.size W w' := by
  obtain ⟨i0, hi0, hz0, hz1, hz2⟩ := info_parts u64_info
  have hown : (W.alloc (.cells #[] 121)).ownsRow W.heap.size 121 1 (.slice (some ⟨W.heap.size, 0, none⟩) 0 0) 0 [] := World.ownsRow_made W #[] 0 (Nat.le_refl _) (by unfold maxLen; omega) rfl
  have hb := (Below.refl W.heap.size W).alloc (Nat.le_refl _) (.cells #[] 121)
  cases A with
  | none =>
    have hl0 : l = [] := by
      cases l with
      | nil => rfl
      | cons b l =>
        obtain ⟨_, _, e, _⟩ := h.at' 0 (by simp)
        cases e
    subst hl0
    rw [hA rfl]
    exact ⟨_, _, _, run_append_owned_none (P := Tryz.prog) _ W.heap.size 22 22 121 i0 1 Tryz.underlying22 hi0 _ 0 [] hown, by simp, Nat.le_refl _, row_of_is (World.rowIs_alloc W #[] 121 _ (fun i hi => by simp at hi)), hb⟩
  | some ad =>
    obtain ⟨v', w', hr, h2, h3, h4, _⟩ := run_append_own_at (P := Tryz.prog) (W.alloc (.cells #[] 121)) W.heap.size 22 22 121 i0 (.int .u64 0) 1 8 Tryz.underlying22 hi0 hz0 hz1 hz2 rfl (by decide) _ 0 [] hown ad l.length c (Pack.u64s l) (by simp [Pack.u64s]) (wds_news (h.alloc _)) (u64s_one l) (by unfold maxLen; omega) (by omega) (by simp)
    rw [Nat.zero_add, List.nil_append] at h2
    have hne : v' ≠ .slice none 0 0 := fun e => by
      have := (h4.1 e).1
      cases this
    rcases h2.2 with ⟨e, _⟩ | ⟨g, cap, cur, e, hg, hh, hc, _, hsz, ht⟩
    · exact absurd e hne
    · subst e
      refine ⟨g, cap, w', hr, hc, hg, row_of_own h2 (fun i hi => ?_) rfl, hb.grown h3 (by simp) (fun k hk => Pack.row_base_lt hown hk)⟩
      simp [Pack.u64s, List.getD, List.getElem?_eq_getElem hi]

/-- an append whose run is known -/
theorem wpList_append_run {P : Program} {w w' : World} {ops : Array Oper} {rest : List Oper} {o : Oper} {a : Act} {Q : Exit → Act → World → Prop} (hgd : o.guard = none) (s x : Operand) (t : TypeId)
    (ho : o.op = .call { callee := .builtin .append, args := #[s, x], argTypes := #[t, t] }) (v u v' : Value) (hs : a.eval s = v) (hx : a.eval x = u) (hr : (Builtin.append_ #[t, t] o.type #[v, u]).run P w = .ok v' w')
    (h : wpList P ops Q rest (a.put o.dst v') w') : wpList P ops Q (o :: rest) a w := by
  refine wpList_plain hgd fun K hK => ?_
  unfold Oper.wp execOp
  simp only [ho, resolve, invoke, builtin, Sem.run_bind, Sem.run_pure, Result.andThen_ok, List.map_toArray, List.map_cons, List.map_nil, hs, hx, hr]
  exact hK _ _ h

/-- words of the call's own -/
def Wrd (w : World) (K : Nat) (x : Nat → Nat) (e : Ending) (w' : World) : Prop :=
  ∃ g gc : Nat, e = .returned (.slice (some ⟨g, 0, none⟩) K gc) ∧ K ≤ gc ∧ w.heap.size ≤ g ∧ Row w' g 121 K (fun k => .int .u64 (x k : Int)) ∧ Below w.heap.size w w'

section
variable {w : World} {p q K C n : Nat} {f : Nat → Bool}
set_option maxRecDepth 100000 in
set_option maxHeartbeats 1000000 in
theorem clone_any (ad : Addr) (c : Nat) (l : List Nat) (h : Wds w (some ad) l) (hl : l.length ≤ 1000000) :
    Calls Tryz.prog 119 #[.slice (some ad) l.length c] w (Wrd w l.length (fun k => l.getD k 0)) := by
  obtain ⟨g, gc, w', hr, h1, h2, h3, h4⟩ := copy_row c h (fun e => by cases e) hl
  have HR := Lib.hid hr
  have HX := Lib.hid (show Wrd w l.length (fun k => l.getD k 0) (.returned (.slice (some ⟨g, 0, none⟩) l.length gc)) w' from ⟨g, gc, rfl, h1, h2, h3, h4⟩)
  clear hr h1 h2 h3 h4 h
  have q40 : ∀ (w : World) (a : Option Addr) (n c n' c' : Nat), (binOp .eql 22 (.slice a n c) (.slice none n' c')).run Tryz.prog w = .ok (.bool a.isNone) w := fun w a n c n' c' => Lib.run_eql_slice_nil w _ _ a n c n' c' Tryz.underlying22
  go_enter Tryz.func119, Tryz.ntmps119
  go_wp2_with (at_builtin; refine wpList_append_run rfl (.tmp 5) (.tmp 6) 22 rfl _ _ _ rfl rfl HR.out ?_)
  go_ret
  exact HX.out

set_option maxRecDepth 100000 in
theorem words_any (h : Mp w p q K C n f) : Calls Tryz.prog 89 #[.pointer (some ⟨p, 0, none⟩)] w (Wrd w K (wd f)) := by
  have hc1 := h.c1
  have hk := h.kk
  have hmx := h.max
  have hcl := clone_any ⟨q, 0, none⟩ C (wds f K) (h.row.wds (by omega)) (by rw [wds_len]; omega)
  rw [wds_len] at hcl
  have HCL := Lib.hid (hcl.mono fun e w' ⟨g, gc, h1, h2, h3, h4, h5⟩ => (⟨g, gc, h1, h2, h3, h4.congr (fun i hi => by
    have : i < (wds f K).length := by rw [wds_len]; exact hi
    show Value.int .u64 (((wds f K).getD i 0 : Nat) : Int) = Value.int .u64 (wd f i : Int)
    rw [List.getD_eq_getElem?_getD, List.getElem?_eq_getElem this, Option.getD_some, wds_get]), h5⟩ : Wrd w K (wd f) e w'))
  clear hcl h hk hmx
  go_enter Tryz.func89, Tryz.ntmps89
  go_wp2_with fail
  refine HCL.out.mono ?_
  rintro e w' ⟨g, gc, rfl, h2, h3, h4, h5⟩
  have HX := Lib.hid (show Wrd w K (wd f) (.returned (.slice (some ⟨g, 0, none⟩) K gc)) w' from ⟨g, gc, rfl, h2, h3, h4, h5⟩)
  clear h2 h3 h4 h5
  go_wp2
  go_ret
  exact HX.out

/-- a map that the call made -/
def Cpy (w : World) (K n : Nat) (f : Nat → Bool) (e : Ending) (w' : World) : Prop :=
  ∃ p q C : Nat, e = .returned (.pointer (some ⟨p, 0, none⟩)) ∧ w.heap.size ≤ p ∧ w.heap.size ≤ q ∧ Mp w' p q K C n f ∧ Below w.heap.size w w'
theorem below_drew {w w1 : World} (h : Below w.drew.heap.size w.drew w1) : Below w.heap.size w w1 := ⟨h.os, h.tape, h.output, h.size, h.block⟩
theorem mp_box {w1 : World} {g gc : Nat} (hrow : Row w1 g 121 K (fun k => .int .u64 (wd f k : Int))) (hfar : ∀ b, n ≤ b → f b = false) (hm : n ≤ 65534) (hK : K = (n + 63) / 64) (hgc : K ≤ gc) :
    Mp (w1.alloc (.cells #[.int .i64 (n : Int), .slice (some ⟨g, 0, none⟩) K gc] 123)) w1.heap.size g K gc n f :=
  ⟨by simp, Pack.alloc_cell _ _ _ _, Pack.alloc_cell _ _ _ _, hrow.of_block (Below.heap_alloc _ _ _ hrow.lt), Nat.ne_of_gt hrow.lt, hfar, hm, hK, hgc⟩
set_option maxRecDepth 100000 in
set_option maxHeartbeats 1000000 in
theorem copy_any (h : Mp w p q K C n f) : Calls Tryz.prog 56 #[.pointer (some ⟨p, 0, none⟩)] w (Cpy w K n f) := by
  have hc0 := h.c0
  have HW := Lib.hid (words_any h.drew)
  have H := Lib.hid h
  clear h
  go_enter Tryz.func56, Tryz.ntmps56
  go_wp2_with fail
  go_region_held3 (fun W' => W'.cell? ⟨p, 0, none⟩ = some (.int .i64 (n : Int))) (go_keep)
    (first
    | (go_at_call 89
       with_reducible refine HW.out.mono ?_
       rintro e w1 ⟨g, gc, rfl, h2, h3, h4, h5⟩
       have HB := Lib.hid (below_drew h5)
       have HR := Lib.hid h4
       have HG := Lib.hid h3
       have hk0 := (h5.cell (p := ⟨p, 0, none⟩) H.out.lt).trans hc0
       clear h3 h4 h5))
  have HX := Lib.hid (mp_box HR.out H.out.far H.out.max H.out.hK h2)
  have HBB := Lib.hid (HB.out.alloc HB.out.size (.cells #[.int .i64 (n : Int), .slice (some ⟨g, 0, none⟩) K gc] 123))
  go_wp2
  go_ret
  exact ⟨w1.heap.size, g, gc, rfl, HB.out.size, HG.out, HX.out, HBB.out⟩

set_option maxHeartbeats 1600000 in
set_option maxRecDepth 100000 in
theorem equal_any (A B : Option Addr) (c d : Nat) (l m : List Nat) (h : Wds w A l) (g : Wds w B m) :
    Calls Tryz.prog 154 #[.slice A l.length c, .slice B m.length d] w fun e w' => e = .returned (.bool (decide (l = m))) ∧ ∃ n, w' = w.drewN n := by
  have hn := h.len
  have hm := g.len
  have H := Lib.hid h
  have G := Lib.hid g
  clear h g
  by_cases hlen : l.length = m.length
  · go_enter Tryz.func154, Tryz.ntmps154
    go_wp2
    go_loopw [13] (fun i wr => ∃ (k n : Nat), k ≤ l.length ∧ i = .int .i64 (k : Int) ∧ l.take k = m.take k ∧ wr = w.drewN n) (fun i _ => l.length - (intOf i).toNat)
    case atStart => exact ⟨0, 0, Nat.zero_le _, rfl, rfl, rfl⟩
    case round =>
      obtain ⟨k, n, hk, rfl, hs, rfl⟩ := hrel
      have HS := Lib.hid hs
      clear hs
      by_cases hlt : k < l.length
      · have hlt2 : k < m.length := by omega
        obtain ⟨b, o, rfl, hb, hcell⟩ := H.out.at' k hlt
        obtain ⟨b2, o2, rfl, hb2, hcell2⟩ := G.out.at' k hlt2
        have hi0 : (0 : Int) ≤ (k : Int) := by omega
        have hi1 : (k : Int) < (l.length : Int) := by omega
        have hi2 : (k : Int) < (m.length : Int) := by omega
        have HE := Lib.hid (show l.take (k + 1) = m.take (k + 1) ↔ l[k] = m[k] by
          rw [List.take_succ_eq_append_getElem hlt, List.take_succ_eq_append_getElem (l := m) hlt2, HS.out, List.append_right_inj]
          simp)
        generalize l[k] = x at *
        generalize m[k] = y at *
        by_cases hxy : x = y
        · subst hxy
          have HE1 := Lib.hid (HE.out.2 rfl)
          clear HE
          go_wp2
          go_quiet (fail)
          go_wp2
          refine ⟨⟨k + 1, n + nq, by omega, by go_num, HE1.out, rfl⟩, by simp [intOf]; omega⟩
        · have hne : ¬ (x : Int) = (y : Int) := by omega
          go_wp2
          go_quiet (fail)
          go_wp2
          go_ret
          refine ⟨?_, n + nq, World.drewN_drewN _ _ _⟩
          have : ¬ l = m := fun h => hxy (HE.out.1 (by rw [h]))
          rw [decide_eq_false this]
          rfl
      · obtain rfl : k = l.length := by omega
        have he : l = m := by
          have := HS.out
          rwa [List.take_length, hlen, List.take_length] at this
        go_wp2
        go_ret
        refine ⟨?_, n, rfl⟩
        rw [decide_eq_true he]
        rfl
  · have hne : ¬ (l.length : Int) = (m.length : Int) := by omega
    have hlm : ¬ l = m := fun h => hlen (by rw [h])
    go_enter Tryz.func154, Tryz.ntmps154
    go_wp2
    go_ret
    refine ⟨?_, 0, rfl⟩
    rw [decide_eq_false hlm]
    rfl

/-! Same. -/
theorem wds_eq {g : Nat → Bool} (hf : ∀ b, n ≤ b → f b = false) (hg : ∀ b, n ≤ b → g b = false) (hK : n ≤ 64 * K) : wds f K = wds g K ↔ f = g := by
  constructor
  · intro h
    funext b
    by_cases hb : n ≤ b
    · rw [hf b hb, hg b hb]
    · have := congrArg (·[b / 64]?) h
      have hl : b / 64 < K := by omega
      simp only [wds, List.getElem?_map, List.getElem?_range hl, Option.map_some, Option.some.injEq] at this
      have := wd_inj this (b % 64) (Nat.mod_lt _ (by omega))
      rwa [show 64 * (b / 64) + b % 64 = b by omega] at this
  · rintro rfl
    rfl
end
end Bm
end Go.Proofs.YtilolepbfmcbgaaGreatDoor
/- The document's map: a truth for each block: new, turned, counted, the next one. -/
namespace Go.Proofs.YtilolepbfmcbgaaGreatDoor
open Go.RowKit Go.MapKept
namespace Bm
open Pack (Wds Nts)

theorem bool_info : (Tryz.prog.info? 4).map (fun i => (i.zero, i.size, i.bytes)) = some (some (.bool false), 1, 1) := by kernel_rfl
def bls (f : Nat → Bool) (n : Nat) : List Value := (List.range n).map fun k => .bool (f k)
theorem bls_len (f : Nat → Bool) (n : Nat) : (bls f n).length = n := by simp [bls]
theorem bls_get (f : Nat → Bool) (n i : Nat) (h : i < n) : (bls f n)[i]? = some (.bool (f i)) := by simp [bls, h]
theorem bls_one (f : Nat → Bool) (n : Nat) : ∀ u ∈ bls f n, u.oneCell' = true := by
  intro u hu
  obtain ⟨x, _, rfl⟩ := List.mem_map.1 hu
  rfl
theorem Row.bls {w : World} {g q n : Nat} {f : Nat → Bool} (h : Row w g 4 n (fun k => .bool (f k))) (hq : g ≠ q) : Bls w q (some ⟨g, 0, none⟩) n f :=
  ⟨fun j hj => ⟨g, 0, rfl, h.lt, hq, by rw [Nat.zero_add]; exact h.cell hj⟩⟩

section
variable {w : World} {q n : Nat} {f : Nat → Bool}
/-- a truth turned -/
def Trn (w : World) (q n : Nat) (is : Bool) (f : Nat → Bool) (b : Int) (e : Ending) (w' : World) : Prop :=
  ∃ (A : Option Addr) (c : Nat), e = .returned (.tuple #[.slice A n c, .bool (trd n is f b)]) ∧ Bls w' q A n (trn n is f b) ∧ Below w.heap.size w w'

end
end Bm
end Go.Proofs.YtilolepbfmcbgaaGreatDoor
/- The document's words of a map; whether a map is the document's. -/
namespace Go.Proofs.YtilolepbfmcbgaaGreatDoor
open Go.RowKit Go.MapKept
namespace Bm
open Pack (Wds Nts)

/-- those of f ahead of k -/
def lo (f : Nat → Bool) (k x : Nat) : Bool := f x && decide (x < k)
theorem lo_none (f : Nat → Bool) (j : Nat) : wd (lo f 0) j = 0 := by
  apply Nat.eq_of_testBit_eq
  intro i
  rw [wd_bit]
  simp [lo]
theorem lo_same {f : Nat → Bool} {k : Nat} (h : f k = false) : lo f (k + 1) = lo f k := by
  funext x
  unfold lo
  by_cases e : x = k
  · subst e; simp [h]
  · have : decide (x < k + 1) = decide (x < k) := by rw [decide_eq_decide]; omega
    rw [this]
theorem lo_more {f : Nat → Bool} {k : Nat} (h : f k = true) : lo f (k + 1) = upd (lo f k) k true := by
  funext x
  unfold upd lo
  by_cases e : x = k
  · subst e; simp [h]
  · rw [if_neg e]
    have : decide (x < k + 1) = decide (x < k) := by rw [decide_eq_decide]; omega
    rw [this]
theorem lo_lt (f : Nat → Bool) (k : Nat) : wd (lo f k) (k / 64) < 2 ^ (k % 64) := by
  apply Nat.lt_pow_two_of_testBit
  intro i hi
  rw [wd_bit]
  unfold lo
  have : ¬ 64 * (k / 64) + i < k := by omega
  simp [this]
theorem lo_add {f : Nat → Bool} {k : Nat} (h : f k = true) : wd (lo f k) (k / 64) + 2 ^ (k % 64) = wd (lo f (k + 1)) (k / 64) := by
  rw [lo_more h, ← wd_or]
  have := Nat.two_pow_add_eq_or_of_lt (lo_lt f k) 1
  rw [Nat.mul_one] at this
  rw [Nat.add_comm, this, Nat.or_comm]
theorem lo_other {f : Nat → Bool} {k j : Nat} (h : j ≠ k / 64) : wd (lo f (k + 1)) j = wd (lo f k) j := by
  apply wd_congr
  intro i hi
  unfold lo
  have : decide (64 * j + i < k + 1) = decide (64 * j + i < k) := by rw [decide_eq_decide]; omega
  rw [this]
theorem lo_all (f : Nat → Bool) (n : Nat) (h : ∀ b, n ≤ b → f b = false) : lo f n = f := by
  funext x
  unfold lo
  by_cases hx : x < n
  · simp [hx]
  · rw [h x (by omega)]; rfl

section
variable {w : World} {q n : Nat} {f : Nat → Bool}
end
end Bm
end Go.Proofs.YtilolepbfmcbgaaGreatDoor
/- Whether a map is the document's: it is, where both have the same blocks; the chapter's example. -/
namespace Go.Proofs.YtilolepbfmcbgaaGreatDoor
open Go.RowKit Go.MapKept
namespace Bm
open Pack (Wds Nts)

theorem below_drewN {B : Nat} {a w : World} (h : Below B a w) (n : Nat) : Below B a (w.drewN n) := ⟨h.os, h.tape, h.output, h.size, h.block⟩
theorem Bls.drewN {w : World} {q n : Nat} {A : Option Addr} {f : Nat → Bool} (h : Bls w q A n f) (k : Nat) : Bls (w.drewN k) q A n f := ⟨h.at'⟩

section
variable {w : World} {p q r K C n : Nat} {f : Nat → Bool}
/-! The example. -/
theorem nts_cells (w : World) (l : List Int) (hb : ∀ x ∈ l, -9223372036854775808 ≤ x ∧ x ≤ 9223372036854775807) (hl : l.length ≤ 1000) (hq : q < w.heap.size) : ∀ w', Chg q (w.alloc (.cells (l.map (Value.int .i64)).toArray 3)) w' → Nts w' (some ⟨w.heap.size, 0, none⟩) l := fun w' hc =>
  ⟨hb, by omega, fun j hj => by
    refine ⟨w.heap.size, 0, rfl, Nat.lt_of_lt_of_le (by simp) hc.size, ?_⟩
    rw [hc.cell (p := ⟨w.heap.size, 0 + j, none⟩) (by simp) (by simp; omega)]
    refine (Pack.alloc_cell _ _ _ _).trans ?_
    simp [hj]⟩
theorem wds_cells (w : World) : Wds (w.alloc (.cells #[.int .u64 1, .int .u64 2] 121)) (some ⟨w.heap.size, 0, none⟩) [1, 2] :=
  ⟨fun x hx => by
    have : x = 1 ∨ x = 2 := by simpa using hx
    omega, by decide, fun j hj => by
    have : j < 2 := hj
    match j, this with
    | 0, _ => exact ⟨w.heap.size, 0, rfl, by simp, Pack.alloc_cell _ _ _ _⟩
    | 1, _ => exact ⟨w.heap.size, 0, rfl, by simp, Pack.alloc_cell _ _ _ _⟩⟩
def ex : Nat → Bool := (tn 70 true (fun _ => false) [0, 65, 70]).1
theorem ex_two : (tn 70 true (fun _ => false) [0, 65, 70]).2 = 2 := by decide +kernel
theorem ex_words : wds ex 2 = [1, 2] := by decide +kernel
theorem ex_next : next ex true 70 1 = 65 := by decide +kernel
theorem ex_free : next ex false 70 0 = 1 := by decide +kernel

set_option maxRecDepth 100000 in
set_option maxHeartbeats 2000000 in
theorem lives_any (w : World) (hT : Tab w) : Calls Tryz.prog 103 #[] w fun e w' => e = .returned (.bool true) ∧ Below w.heap.size w w' := by
  have hlt := hT.lt
  have HT := Lib.hid hT
  have HN := Lib.hid (new_any 70 70 2 (by decide) (by decide) w)
  have HPL := Lib.hid (fun w => Pack.lives_any w)
  clear hT
  go_enter Tryz.func103, Tryz.ntmps103
  go_wp2_with fail
  refine HN.out.mono ?_
  rintro e w1 ⟨rfl, hM, hb1⟩
  have HM := Lib.hid hM
  have HB := Lib.hid hb1
  clear hM hb1
  go_wp2_with fail
  refine (HPL.out _).mono ?_
  rintro e w2 ⟨rfl, hb2⟩
  have HM2 := Lib.hid (HM.out.keep hb2)
  have HB2 := Lib.hid (HB.out.trans (hb2.mono HB.out.size))
  have hsz : w.heap.size < w2.heap.size := HM2.out.row.lt
  clear hb2
  have hmA := HM2.out.keep ((Below.refl _ _).alloc (Nat.le_refl _) (.cells #[.int .i64 0, .int .i64 65, .int .i64 70] 3))
  have hput := put_any hmA (some ⟨w2.heap.size, 0, none⟩) 3 [0, 65, 70] (nts_cells w2 [0, 65, 70] (by intro x hx; simp at hx; omega) (by decide) HM2.out.row.lt)
  rw [ex_two] at hput
  have HP := Lib.hid (show Calls Tryz.prog 24 #[.pointer (some ⟨w.heap.size + 1, 0, none⟩), .slice (some ⟨w2.heap.size, 0, none⟩) 3 3] (w2.alloc (.cells #[.int .i64 0, .int .i64 65, .int .i64 70] 3)) fun e w' => e = .returned (.int .i64 2) ∧ Mp w' (w.heap.size + 1) w.heap.size 2 2 70 ex ∧ Chg w.heap.size (w2.alloc (.cells #[.int .i64 0, .int .i64 65, .int .i64 70] 3)) w' from hput)
  clear hmA hput
  go_wp2_with fail
  refine HP.out.mono ?_
  rintro e w3 ⟨rfl, hM3, hC3⟩
  have HM3 := Lib.hid hM3
  have HC3 := Lib.hid (((Chg.refl w.heap.size w2).alloc _).trans hC3)
  have HB3 := Lib.hid (HB2.out.trans (HC3.out.below (Nat.le_of_lt hsz) (Nat.le_refl _)))
  clear hM3 hC3
  go_wp2_with fail
  refine (words_any HM3.out).mono ?_
  rintro e w4 ⟨g, gc, rfl, _, hg, hrow, hb4⟩
  have HM4 := Lib.hid (HM3.out.keep hb4)
  have HB4 := Lib.hid (HB3.out.trans (hb4.mono HB3.out.size))
  have hwd := hrow.wds (by decide)
  rw [ex_words] at hwd
  have hba := (Below.refl w4.heap.size w4).alloc (Nat.le_refl _) (.cells #[.int .u64 1, .int .u64 2] 121)
  have hsm := Pack.same_any (some ⟨g, 0, none⟩) (some ⟨w4.heap.size, 0, none⟩) gc 2 [1, 2] [1, 2] (hwd.keep hba) (wds_cells w4)
  rw [decide_eq_true rfl] at hsm
  have HSM := Lib.hid (show Calls Tryz.prog 142 #[.slice (some ⟨g, 0, none⟩) 2 gc, .slice (some ⟨w4.heap.size, 0, none⟩) 2 2] (w4.alloc (.cells #[.int .u64 1, .int .u64 2] 121)) fun e w' => e = .returned (.bool true) ∧ ∃ n, w' = (w4.alloc (.cells #[.int .u64 1, .int .u64 2] 121)).drewN n from hsm)
  have HBA := Lib.hid hba
  clear hg hrow hb4 hwd hsm hba
  go_wp2_with fail
  refine HSM.out.mono ?_
  rintro e w5 ⟨rfl, k5, hw5⟩
  have hb5 : Below w4.heap.size w4 w5 := by rw [hw5]; exact below_drewN HBA.out k5
  have HM5 := Lib.hid (HM4.out.keep hb5)
  have HB5 := Lib.hid (HB4.out.trans (hb5.mono HB4.out.size))
  have hT5 := HT.out.below HB5.out hlt
  have hn1 := next_any HM5.out hT5 1 true (by decide)
  have hn2 := next_any HM5.out hT5 0 false (by decide)
  rw [show (1 : Int).toNat = 1 from rfl, ex_next] at hn1
  rw [show (0 : Int).toNat = 0 from rfl, ex_free] at hn2
  have HN1 := Lib.hid hn1
  have HN2 := Lib.hid hn2
  clear hw5 hb5 hT5 hn1 hn2
  go_wp2_with fail
  refine HN1.out.mono ?_
  rintro e w6 ⟨rfl, rfl⟩
  go_wp2_with fail
  refine HN2.out.mono ?_
  rintro e w6 ⟨rfl, rfl⟩
  go_wp2
  go_ret
  exact ⟨rfl, HB5.out⟩
end
end Bm
end Go.Proofs.YtilolepbfmcbgaaGreatDoor
/- Runs as they lie in memory; the first free run from a block on. -/
namespace Go.Proofs.YtilolepbfmcbgaaGreatDoor
open Go.RowKit Go.MapKept
namespace Rn
open Bm

/-- runs as they lie, in a block from B on -/
structure Rs (w : World) (B : Nat) (A : Option Addr) (l : List Run) : Prop where
  at' : ∀ j (h : j < l.length), ∃ b o, A = some ⟨b, o, none⟩ ∧ b < w.heap.size ∧ B ≤ b ∧ w.cell? ⟨b, o + j * 2, none⟩ = some (.int .i64 (l[j].1 : Int)) ∧ w.cell? ⟨b, o + j * 2 + 1, none⟩ = some (.int .i64 (l[j].2 : Int))
theorem Rs.keep {w w' : World} {B : Nat} {A : Option Addr} {l : List Run} (h : Rs w B A l) (hb : Below w.heap.size w w') : Rs w' B A l :=
  ⟨fun j hj => by
    obtain ⟨b, o, e, hlt, hB, hc, hd⟩ := h.at' j hj
    exact ⟨b, o, e, Nat.lt_of_lt_of_le hlt hb.size, hB, (hb.cell (p := ⟨b, o + j * 2, none⟩) hlt).trans hc, (hb.cell (p := ⟨b, o + j * 2 + 1, none⟩) hlt).trans hd⟩⟩
theorem Rs.chg {w w' : World} {B q : Nat} {A : Option Addr} {l : List Run} (h : Rs w B A l) (hb : Chg q w w') (hq : q < B) : Rs w' B A l :=
  ⟨fun j hj => by
    obtain ⟨b, o, e, hlt, hB, hc, hd⟩ := h.at' j hj
    exact ⟨b, o, e, Nat.lt_of_lt_of_le hlt hb.size, hB, (hb.cell (p := ⟨b, o + j * 2, none⟩) hlt (by simp only; omega)).trans hc, (hb.cell (p := ⟨b, o + j * 2 + 1, none⟩) hlt (by simp only; omega)).trans hd⟩⟩
theorem Rs.drew {w : World} {B : Nat} {A : Option Addr} {l : List Run} (h : Rs w B A l) : Rs w.drew B A l := h.keep (Below.refl _ _).drew
theorem Rs.less {w : World} {B B' : Nat} {A : Option Addr} {l : List Run} (h : Rs w B A l) (hB : B' ≤ B) : Rs w B' A l :=
  ⟨fun j hj => by
    obtain ⟨b, o, e, hlt, hB2, hc, hd⟩ := h.at' j hj
    exact ⟨b, o, e, hlt, by omega, hc, hd⟩⟩

/-- a run's value -/
abbrev rv (s c : Int) : Value := .agg #[.int .i64 s, .int .i64 c]

/-- two ints of the call's own in block b -/
structure Own2 (w : World) (b : Nat) (x y : Int) : Prop where
  lt : b < w.heap.size
  c0 : w.cell? ⟨b, 0, none⟩ = some (.int .i64 x)
  c1 : w.cell? ⟨b, 1, none⟩ = some (.int .i64 y)
  f : ∀ o, w.frozen? ⟨b, o, none⟩ = false
theorem Own2.keepN {w w' : World} {b N : Nat} {x y : Int} (h : Own2 w b x y) (hb : Below N w w') (hN : b < N) : Own2 w' b x y :=
  ⟨Nat.lt_of_lt_of_le h.lt hb.size, (hb.cell (p := ⟨b, 0, none⟩) hN).trans h.c0, (hb.cell (p := ⟨b, 1, none⟩) hN).trans h.c1, fun o => (hb.frozen (p := ⟨b, o, none⟩) hN).trans (h.f o)⟩
theorem Own2.keep {w w' : World} {b : Nat} {x y : Int} (h : Own2 w b x y) (hb : Below w.heap.size w w') : Own2 w' b x y := h.keepN hb h.lt
theorem Own2.drew {w : World} {b : Nat} {x y : Int} (h : Own2 w b x y) : Own2 w.drew b x y := ⟨h.lt, h.c0, h.c1, h.f⟩
theorem Own2.drewN {w : World} {b : Nat} {x y : Int} (h : Own2 w b x y) (k : Nat) : Own2 (w.drewN k) b x y := ⟨h.lt, h.c0, h.c1, h.f⟩
/-- both are stored anew -/
theorem Own2.put {w : World} {b : Nat} {x y : Int} (h : Own2 w b x y) (x' y' : Int) : Own2 ((w.setCell ⟨b, 0, none⟩ (.int .i64 x')).setCell ⟨b, 1, none⟩ (.int .i64 y')) b x' y' := by
  have e0 : ((w.setCell ⟨b, 0, none⟩ (.int .i64 x')).setCell ⟨b, 1, none⟩ (.int .i64 y')).cell? ⟨b, 0, none⟩ = some (.int .i64 x') := by
    rw [World.cell?_setCell_other _ _ _ _ (by simp)]
    exact World.cell?_setCell_same _ _ _ h.c0
  have e1 : ((w.setCell ⟨b, 0, none⟩ (.int .i64 x')).setCell ⟨b, 1, none⟩ (.int .i64 y')).cell? ⟨b, 1, none⟩ = some (.int .i64 y') :=
    World.cell?_setCell_same _ _ _ (u := .int .i64 y) (by rw [World.cell?_setCell_other _ _ _ _ (by simp)]; exact h.c1)
  exact ⟨by simpa [World.setCell] using h.lt, e0, e1, fun o => by simpa using h.f o⟩
theorem Own2.put1 {w : World} {b : Nat} {x y : Int} (h : Own2 w b x y) (y' : Int) : Own2 (w.setCell ⟨b, 1, none⟩ (.int .i64 y')) b x y' :=
  ⟨by simpa [World.setCell] using h.lt, by rw [World.cell?_setCell_other _ _ _ _ (by simp)]; exact h.c0, World.cell?_setCell_same _ _ _ h.c1, fun o => by simpa using h.f o⟩
theorem own2_new (w : World) (x y : Int) (t : TypeId) : Own2 (w.alloc (.cells #[.int .i64 x, .int .i64 y] t)) w.heap.size x y :=
  ⟨by simp, World.cell?_alloc_mark w _ t _ 0, World.cell?_alloc_mark w _ t _ 1, fun o => (World.rowIs_alloc w #[.int .i64 x, .int .i64 y] t (fun j => if j = 0 then .int .i64 x else .int .i64 y) (fun j hj => by
    have : j < 2 := hj
    match j, this with
    | 0, _ => rfl
    | 1, _ => rfl)).frozen o⟩

section
variable {w : World} {p q K C n : Nat} {f : Nat → Bool}
set_option maxRecDepth 100000 in
set_option maxHeartbeats 1000000 in
theorem freeFrom_none (h : Mp w p q K C n f) (hT : Tab w) (s : Nat) (hs : s ≤ 65534) (hF : From f n s []) :
    Calls Tryz.prog 181 #[.pointer (some ⟨p, 0, none⟩), .int .i64 (s : Int)] w fun e w' => e = .returned (.tuple #[rv 0 0, .bool false]) ∧ Below w.heap.size w w' := by
  have HO := Lib.hid (own2_new w 0 0 138)
  have hba := (Below.refl w.heap.size w).alloc (Nat.le_refl _) (.cells #[.int .i64 0, .int .i64 0] 138)
  have hn := next_any (h.keep hba) (hT.below hba hT.lt) (s : Int) false (by omega)
  rw [Int.toNat_natCast, hF.next_none] at hn
  have HN := Lib.hid hn
  have HB := Lib.hid hba
  clear hn h hT hF hba
  have hc0 := HO.out.c0
  have hc1 := HO.out.c1
  have hf0 := HO.out.f 0
  have hf1 := HO.out.f 1
  go_enter Tryz.func181, Tryz.ntmps181
  go_wp2_with fail
  generalize w.alloc (.cells #[.int .i64 0, .int .i64 0] 138) = w1 at *
  refine HN.out.mono ?_
  rintro e w2 ⟨rfl, rfl⟩
  go_wp2
  refine bodyPost_ret (v := .tuple #[rv 0 0, .bool false]) ?_ rfl ⟨rfl, ?_⟩
  · simp [results, Tryz.results181, go_sem, hc0, hc1]
  · exact (HB.out.setCell (Nat.le_refl _) _).setCell (Nat.le_refl _) _
set_option maxRecDepth 100000 in
set_option maxHeartbeats 1000000 in
theorem freeFrom_some (h : Mp w p q K C n f) (hT : Tab w) (s a c : Nat) (l : List Run) (hs : s ≤ 65534) (hF : From f n s ((a, c) :: l)) :
    Calls Tryz.prog 181 #[.pointer (some ⟨p, 0, none⟩), .int .i64 (s : Int)] w fun e w' => e = .returned (.tuple #[rv (a : Int) (c : Int), .bool true]) ∧ Below w.heap.size w w' := by
  have hmx := h.max
  obtain ⟨e1, h1, h2, h3, h4, -⟩ := hF.next_some
  have HO := Lib.hid (own2_new w 0 0 138)
  have hba := (Below.refl w.heap.size w).alloc (Nat.le_refl _) (.cells #[.int .i64 0, .int .i64 0] 138)
  have hn := next_any (h.keep hba) (hT.below hba hT.lt) (s : Int) false (by omega)
  rw [Int.toNat_natCast, e1] at hn
  have hm := next_any (h.keep hba) (hT.below hba hT.lt) (a : Int) true (by omega)
  rw [Int.toNat_natCast] at hm
  have HL := Lib.hid (len_any (h.keep hba))
  have HN := Lib.hid hn
  have HB := Lib.hid hba
  have ha : ¬ (a : Int) = -1 := by omega
  have hc0 := HO.out.c0
  have hc1 := HO.out.c1
  have hf0 := HO.out.f 0
  have hf1 := HO.out.f 1
  rcases h4 with ⟨h4, h5⟩ | h4
  · rw [h4] at hm
    have HM := Lib.hid hm
    have hsub : (n : Int) - (a : Int) = (c : Int) := by omega
    clear hn hm h hT hF h4 e1 hba
    go_enter Tryz.func181, Tryz.ntmps181
    go_wp2_with fail
    generalize w.alloc (.cells #[.int .i64 0, .int .i64 0] 138) = w1 at *
    refine HN.out.mono ?_
    rintro e w2 ⟨rfl, rfl⟩
    go_wp2_with fail
    refine HM.out.mono ?_
    rintro e w2 ⟨rfl, rfl⟩
    go_wp2_with fail
    refine HL.out.mono ?_
    rintro e w2 ⟨rfl, rfl⟩
    go_wp2
    refine bodyPost_ret (v := .tuple #[rv (a : Int) (c : Int), .bool true]) ?_ rfl ⟨rfl, ?_⟩
    · simp [results, Tryz.results181, go_sem, hc0, hc1]
    · exact (HB.out.setCell (Nat.le_refl _) _).setCell (Nat.le_refl _) _
  · rw [h4] at hm
    have HM := Lib.hid hm
    obtain ⟨k, hk⟩ : ∃ k, k = a + c := ⟨_, rfl⟩
    rw [← hk] at HM
    have hsub : (k : Int) - (a : Int) = (c : Int) := by omega
    have hk1 : ¬ (k : Int) = -1 := by omega
    have hk2 : k ≤ 65534 := by omega
    clear hn hm h hT hF h4 e1 hk hba
    go_enter Tryz.func181, Tryz.ntmps181
    go_wp2_with fail
    generalize w.alloc (.cells #[.int .i64 0, .int .i64 0] 138) = w1 at *
    refine HN.out.mono ?_
    rintro e w2 ⟨rfl, rfl⟩
    go_wp2_with fail
    refine HM.out.mono ?_
    rintro e w2 ⟨rfl, rfl⟩
    go_wp2
    refine bodyPost_ret (v := .tuple #[rv (a : Int) (c : Int), .bool true]) ?_ rfl ⟨rfl, ?_⟩
    · simp [results, Tryz.results181, go_sem, hc0, hc1]
    · exact (HB.out.setCell (Nat.le_refl _) _).setCell (Nat.le_refl _) _
end
end Rn
end Go.Proofs.YtilolepbfmcbgaaGreatDoor
/- Fit: the first free run that is long enough. -/
namespace Go.Proofs.YtilolepbfmcbgaaGreatDoor
open Go.RowKit Go.MapKept
namespace Rn
open Bm

/-- what a Fit answers -/
def fv : Option Run → Value
  | some r => .tuple #[rv (r.1 : Int) (r.2 : Int), .bool true]
  | none => .tuple #[rv 0 0, .bool false]

section
variable {w : World} {p q K C n : Nat} {f : Nat → Bool}
set_option maxRecDepth 100000 in
set_option maxHeartbeats 1000000 in
theorem fit_low (x : Int) (hx : x < 1) : Calls Tryz.prog 162 #[.pointer (some ⟨p, 0, none⟩), .int .i64 x] w fun e w' => e = .returned (fv none) ∧ Below w.heap.size w w' := by
  have HO := Lib.hid (own2_new w 0 0 138)
  have HB := Lib.hid ((Below.refl w.heap.size w).alloc (Nat.le_refl _) (.cells #[.int .i64 0, .int .i64 0] 138))
  have hc0 := HO.out.c0
  have hc1 := HO.out.c1
  have hf0 := HO.out.f 0
  have hf1 := HO.out.f 1
  go_enter Tryz.func162, Tryz.ntmps162
  go_wp2
  refine bodyPost_ret (v := fv none) ?_ rfl ⟨rfl, ?_⟩
  · simp [results, Tryz.results162, go_sem, hc0, hc1, fv]
  · exact HB.out

/-- the first of runs, or noughts -/
def hd (l : List Run) : Run := l.headD (0, 0)
theorem freeFrom_any (h : Mp w p q K C n f) (hT : Tab w) (s : Nat) (l : List Run) (hs : s ≤ 65534) (hF : From f n s l) :
    Calls Tryz.prog 181 #[.pointer (some ⟨p, 0, none⟩), .int .i64 (s : Int)] w fun e w' => e = .returned (.tuple #[rv ((hd l).1 : Int) ((hd l).2 : Int), .bool (!l.isEmpty)]) ∧ Below w.heap.size w w' := by
  cases l with
  | nil => exact freeFrom_none h hT s hs hF
  | cons r l => exact freeFrom_some h hT s r.1 r.2 l hs hF

/-- how far it is to the end -/
def mu (n : Nat) (g b : Value) (w : World) : Nat :=
  match g, b with
  | .pointer (some a), .bool true => n + 1 - (intOf ((w.cell? a).getD (.bool false))).toNat
  | _, _ => 0
theorem mu_yes {g : Nat} {x : Nat} {y : Int} (h : Own2 w g (x : Int) y) : mu n (.pointer (some ⟨g, 0, none⟩)) (.bool true) w = n + 1 - x := by
  unfold mu
  simp only
  rw [h.c0]
  rfl
theorem mu_no (g : Value) : mu n g (.bool false) w = 0 := by
  unfold mu
  split
  · rename_i h; cases h
  · rfl

theorem mu_less {w : World} {f : Nat → Bool} {n g d a : Nat} {m : List Run} (h : Own2 w g ((hd m).1 : Int) ((hd m).2 : Int)) (hF : From f n d m) (hd : a < d) (ha : a ≤ n) : mu n (.pointer (some ⟨g, 0, none⟩)) (.bool (!m.isEmpty)) w < n + 1 - a := by
  cases m with
  | nil =>
    simp only [List.isEmpty_nil, Bool.not_true]
    rw [mu_no]
    omega
  | cons r m =>
    have := hF.next_some.2
    simp only [List.isEmpty_cons, Bool.not_false]
    rw [mu_yes h]
    simp only [Rn.hd, List.headD_cons]
    omega

/-- between two rounds -/
def Rd (w wr : World) (f : Nat → Bool) (n g s : Nat) (m : List Run) : Prop :=
  From f n s m ∧ Own2 wr g ((hd m).1 : Int) ((hd m).2 : Int) ∧ Own2 wr w.heap.size 0 0 ∧ w.heap.size < g ∧ Below w.heap.size w wr ∧ s ≤ n

set_option maxRecDepth 100000 in
set_option maxHeartbeats 1000000 in
theorem fit_any (h : Mp w p q K C n f) (hT : Tab w) (c : Nat) (hc : 1 ≤ c) (hc2 : c ≤ 9223372036854775807) :
    Calls Tryz.prog 162 #[.pointer (some ⟨p, 0, none⟩), .int .i64 (c : Int)] w fun e w' => e = .returned (fv (fit (frs f n) c)) ∧ Below w.heap.size w w' := by
  have hmx := h.max
  have HO := Lib.hid (own2_new w 0 0 138)
  have HB := Lib.hid ((Below.refl w.heap.size w).alloc (Nat.le_refl _) (.cells #[.int .i64 0, .int .i64 0] 138))
  have HM0 := Lib.hid h
  have HT0 := Lib.hid hT
  have hc1 : ¬ (c : Int) < 1 := by omega
  have hF := from_frs f n
  generalize frs f n = L at *
  have H0 := Lib.hid (freeFrom_any (h.keep HB.out) (hT.below HB.out hT.lt) 0 L (by omega) hF)
  have HF := Lib.hid hF
  clear h hT hF
  go_enter Tryz.func162, Tryz.ntmps162
  go_wp2_with fail
  generalize w.alloc (.cells #[.int .i64 0, .int .i64 0] 138) = w1 at *
  refine H0.out.mono ?_
  rintro e w2 ⟨rfl, hb⟩
  have HB2 := Lib.hid (HB.out.trans (hb.mono HB.out.size))
  have HO2 := Lib.hid (HO.out.keep hb)
  clear hb
  go_wp2
  go_loopw [6, 7] (fun gv bv wr => ∃ (g s : Nat) (m : List Run), gv = .pointer (some ⟨g, 0, none⟩) ∧ bv = .bool (!m.isEmpty) ∧ fit L c = fit m c ∧ Rd w wr f n g s m) (fun gv bv wr => mu n gv bv wr)
  case atStart =>
    refine ⟨w2.heap.size, 0, L, rfl, rfl, rfl, HF.out, own2_new w2 _ _ _, HO2.out.keep ((Below.refl _ _).alloc (Nat.le_refl _) _), HO2.out.lt, HB2.out.alloc HB2.out.size _, Nat.zero_le _⟩
  case round =>
    obtain ⟨g, s, m, rfl, rfl, hfit, hF, hg, hr, hlt, hb, hsn⟩ := hrel
    cases m with
    | nil =>
      have HE := Lib.hid hfit
      have HB3 := Lib.hid hb
      have HR := Lib.hid hr
      have hc0 := hr.c0
      have hcc := hr.c1
      have hf0 := hr.f 0
      have hf1 := hr.f 1
      clear hfit hb hr hF hg
      simp only [List.isEmpty_nil, Bool.not_true]
      go_wp2
      refine bodyPost_ret (v := fv none) ?_ rfl ⟨?_, ?_⟩
      · simp [results, Tryz.results162, go_sem, hc0, hcc, fv]
      · rw [HE.out]; rfl
      · exact (HB3.out.setCell (Nat.le_refl _) _).setCell (Nat.le_refl _) _
    | cons r m =>
      obtain ⟨a, k⟩ := r
      obtain ⟨_, h1, h2, h3, _, hF2, _⟩ := hF.next_some
      have HE := Lib.hid hfit
      have HB3 := Lib.hid hb
      have hg0 : wr.cell? ⟨g, 0, none⟩ = some (.int .i64 (a : Int)) := hg.c0
      have hg1 : wr.cell? ⟨g, 1, none⟩ = some (.int .i64 (k : Int)) := hg.c1
      have HMU := Lib.hid (mu_yes (n := n) (show Own2 wr g (a : Int) (k : Int) from hg))
      have HR := Lib.hid hr
      have HF2 := Lib.hid hF2
      simp only [List.isEmpty_cons, Bool.not_false]
      by_cases hck : c ≤ k
      · have hck1 : (c : Int) ≤ (k : Int) := by omega
        have hc0 := hr.c0
        have hcc := hr.c1
        have hf0 := hr.f 0
        have hf1 := hr.f 1
        clear hfit hb hr hF hg hF2
        go_wp2
        refine bodyPost_ret (v := fv (some (a, c))) ?_ rfl ⟨?_, ?_⟩
        · simp [results, Tryz.results162, go_sem, hc0, hcc, fv]
        · rw [HE.out, fit_yes hck]
        · exact (HB3.out.setCell (Nat.le_refl _) _).setCell (Nat.le_refl _) _
      · have hck1 : ¬ (c : Int) ≤ (k : Int) := by omega
        have hba := (Below.refl wr.heap.size wr).alloc (Nat.le_refl _) (.cells #[.int .i64 (a : Int), .int .i64 (k : Int)] 138)
        have hb4 := hb.alloc hb.size (.cells #[.int .i64 (a : Int), .int .i64 (k : Int)] 138)
        have HB4 := Lib.hid hb4
        have HO4 := Lib.hid (own2_new wr (a : Int) (k : Int) 138)
        have HR4 := Lib.hid (hr.keep hba)
        obtain ⟨d, hd⟩ : ∃ d, d = a + k := ⟨_, rfl⟩
        rw [← hd] at hF2
        have HC := Lib.hid (freeFrom_any (HM0.out.keep hb4) (HT0.out.below hb4 HT0.out.lt) d m (by omega) hF2)
        have hsum : (a : Int) + (k : Int) = (d : Int) := by omega
        have hd2 : d ≤ n := by omega
        have HF3 := Lib.hid hF2
        have HD := Lib.hid hd
        have hcl0 := HO4.out.c0
        have hcl1 := HO4.out.c1
        have hfl0 := HO4.out.f 0
        have hfl1 := HO4.out.f 1
        have hrl : w.heap.size < wr.heap.size := hr.lt
        clear hfit hb hr hF hg hF2 hba hb4 hd
        go_wp2_with fail
        generalize wr.alloc (.cells #[.int .i64 (a : Int), .int .i64 (k : Int)] 138) = w3 at *
        generalize wr.heap.size = z at *
        refine HC.out.mono ?_
        rintro e w4 ⟨rfl, hb⟩
        have HB5 := Lib.hid (HB4.out.trans (hb.mono HB4.out.size))
        have HO5 := Lib.hid (HO4.out.keep hb)
        have HR5 := Lib.hid (HR4.out.keep hb)
        have hfz0 := HO5.out.f 0
        have hfz1 := HO5.out.f 1
        have hcz0 := HO5.out.c0
        have hcz1 := HO5.out.c1
        clear hb hcl0 hcl1 hfl0 hfl1 hsum
        go_wp2
        have HX := Lib.hid (HO5.out.put ((hd m).1 : Int) ((hd m).2 : Int))
        have HXR := Lib.hid (HR5.out.keepN (((Below.refl (w.heap.size + 1) w4).setCell (p := ⟨z, 0, none⟩) hrl (.int .i64 ((hd m).1 : Int))).setCell (p := ⟨z, 1, none⟩) hrl (.int .i64 ((hd m).2 : Int))) (Nat.lt_succ_self _))
        have HXB := Lib.hid ((HB5.out.setCell (p := ⟨z, 0, none⟩) (Nat.le_of_lt hrl) (.int .i64 ((hd m).1 : Int))).setCell (p := ⟨z, 1, none⟩) (Nat.le_of_lt hrl) (.int .i64 ((hd m).2 : Int)))
        refine ⟨⟨z, d, m, rfl, rfl, ?_, HF3.out, HX.out, HXR.out, hrl, HXB.out, hd2⟩, ?_⟩
        · rw [HE.out, fit_no hck]
        · rw [HMU.out]
          exact mu_less HX.out HF3.out (by have := HD.out; omega) (by omega)
end
end Rn
end Go.Proofs.YtilolepbfmcbgaaGreatDoor
/- Rows of runs that grow; all free runs; how many blocks they have. -/
namespace Go.Proofs.YtilolepbfmcbgaaGreatDoor
open Go.RowKit Go.MapKept
namespace Rn
open Bm

/-- runs as cells -/
def rcells (l : List Run) : List Value := l.flatMap fun r => [.int .i64 (r.1 : Int), .int .i64 (r.2 : Int)]
theorem rcells_get {l : List Run} : ∀ {j : Nat} (h : j < l.length), (rcells l)[j * 2]? = some (.int .i64 (l[j].1 : Int)) ∧ (rcells l)[j * 2 + 1]? = some (.int .i64 (l[j].2 : Int)) := by
  induction l with
  | nil => intro j h; simp at h
  | cons f l ih =>
    intro j h
    cases j with
    | zero => exact ⟨rfl, rfl⟩
    | succ j =>
      have := ih (j := j) (by simpa using h)
      have e : (j + 1) * 2 = j * 2 + 1 + 1 := by omega
      rw [e]
      simpa [rcells] using this
theorem rcells_len (l : List Run) : (rcells l).length = l.length * 2 := by
  induction l with
  | nil => rfl
  | cons f l ih => simp only [rcells, List.flatMap_cons, List.length_append, List.length_cons, List.length_nil] at *; omega
theorem rcells_snoc (l : List Run) (r : Run) : rcells (l ++ [r]) = rcells l ++ [.int .i64 (r.1 : Int), .int .i64 (r.2 : Int)] := by
  unfold rcells
  rw [List.flatMap_append]
  simp
theorem own_rs {W : World} {B n c : Nat} {t : TypeId} {G : Option Addr} {l : List Run} (h : W.ownsRow B t 2 (.slice G n c) n (rcells l)) : Rs W B G l ∧ l.length = n := by
  have hl : l.length = n := by
    have := h.1
    rw [rcells_len] at this
    omega
  refine ⟨⟨fun j hj => ?_⟩, hl⟩
  obtain ⟨f0, f1⟩ := rcells_get hj
  rcases h.2 with ⟨e, h0⟩ | ⟨g, cap, cur, e, hB, hh, _, _, _, ht⟩
  · omega
  · injection e with e
    subst e
    have key : ∀ i, i < n * 2 → W.cell? ⟨g, 0 + i, none⟩ = (rcells l)[i]? := fun i hi => by
      have := congrArg (·[i]?) ht
      rw [List.getElem?_take, if_pos hi] at this
      unfold World.cell?
      rw [hh, Nat.zero_add]
      simp only
      rw [← Array.getElem?_toList]
      exact this
    exact ⟨g, 0, rfl, (Array.getElem?_eq_some_iff.1 hh).1, hB, (key _ (by omega)).trans f0, (key (j * 2 + 1) (by omega)).trans f1⟩
theorem row_slice2 {B n : Nat} {W : World} {e : TypeId} {v : Value} {xs : List Value} (h : W.ownsRow B e 2 v n xs) : ∃ G c, v = .slice G n c := by
  rcases h.2 with ⟨e, h0⟩ | ⟨g, cap, cur, e, _⟩
  · exact ⟨none, 0, by rw [e, h0]⟩
  · exact ⟨_, _, e⟩
theorem row_base_lt2 {w : World} {B : Nat} {e : TypeId} {n : Nat} {v : Value} {xs : List Value} (h : w.ownsRow B e 2 v n xs) {g : Nat} (hg : v.ownBlock = some g) : B ≤ g := (World.ownsRow.lt h g hg).1
/-- a row of the call's own stays -/
theorem own_keepN2 {w w' : World} {B N n : Nat} {t : TypeId} {v : Value} {xs : List Value} (h : w.ownsRow B t 2 v n xs) (hb : Below N w w') (hN : ∀ g, v.ownBlock = some g → g < N) : w'.ownsRow B t 2 v n xs := by
  rcases h with ⟨h1, h2⟩
  refine ⟨h1, ?_⟩
  rcases h2 with h0 | ⟨g, cap, cur, e, hB, hh, hr⟩
  · exact .inl h0
  · exact .inr ⟨g, cap, cur, e, hB, (hb.block g (hN g (by rw [e]; rfl))).trans hh, hr⟩
theorem own_keep2 {w w' : World} {B n : Nat} {t : TypeId} {v : Value} {xs : List Value} (h : w.ownsRow B t 2 v n xs) (hb : Below w.heap.size w w') : w'.ownsRow B t 2 v n xs :=
  own_keepN2 h hb (fun g hg => (World.ownsRow.lt h g hg).2)
theorem Own2.grown {w w' : World} {b : Nat} {x y : Int} {row : Option Nat} (h : Own2 w b x y) (hg : w.grownBy w' row) (hne : some b ≠ row) : Own2 w' b x y :=
  ⟨Nat.lt_of_lt_of_le h.lt hg.size, hg.cell h.c0 hne, hg.cell h.c1 hne, fun o => (World.frozen?_of_block (w := w) (a := ⟨b, o, none⟩) (hg.block b h.lt hne)).trans (h.f o)⟩

/-- the last run of a row of the call's own is longer -/
theorem own_last {W : World} {B n c g : Nat} {t : TypeId} {S : List Run} {a x x' : Nat} (h : W.ownsRow B t 2 (.slice (some ⟨g, 0, none⟩) n c) n (rcells (S ++ [(a, x)]))) :
    (W.setCell ⟨g, S.length * 2 + 1, none⟩ (.int .i64 (x' : Int))).ownsRow B t 2 (.slice (some ⟨g, 0, none⟩) n c) n (rcells (S ++ [(a, x')])) := by
  obtain ⟨h1, h2⟩ := h
  have hn : n = S.length + 1 := by
    rw [rcells_len, List.length_append] at h1
    simp only [List.length_cons, List.length_nil] at h1
    omega
  rcases h2 with ⟨e, _⟩ | ⟨g', cap, cur, e, hB, hh, hc, hm, hsz, ht⟩
  · cases e
  · injection e with e _ e2
    subst e2
    injection e with e
    injection e with e
    subst e
    have hr : W.rowIs g t cur.size (fun i => cur[i]?.getD (.bool false)) := ⟨cur, hh, rfl, fun i hi => by simp [hi]⟩
    obtain ⟨cur', hh', hsz', hg'⟩ := hr.set (S.length * 2 + 1) (.int .i64 (x' : Int))
    refine ⟨by rw [rcells_len, List.length_append, hn]; rfl, .inr ⟨g, c, cur', rfl, hB, hh', hc, hm, hsz'.trans hsz, ?_⟩⟩
    apply List.ext_getElem?
    intro i
    have key := congrArg (·[i]?) ht
    simp only [List.getElem?_take] at key
    rw [rcells_snoc] at key ⊢
    rw [List.getElem?_take]
    split
    · rename_i hi
      rw [if_pos hi, Array.getElem?_toList] at key
      rw [Array.getElem?_toList, hg' i (by omega)]
      show some (if i = S.length * 2 + 1 then Value.int .i64 (x' : Int) else cur[i]?.getD (.bool false)) = _
      by_cases hii : i = S.length * 2 + 1
      · subst hii
        rw [if_pos rfl, List.getElem?_append_right (by rw [rcells_len]; omega), rcells_len, show S.length * 2 + 1 - S.length * 2 = 1 by omega]
        rfl
      · rw [if_neg hii, key]
        by_cases hlt : i < S.length * 2
        · rw [List.getElem?_append_left (by rw [rcells_len]; exact hlt), List.getElem?_append_left (by rw [rcells_len]; exact hlt), List.getElem?_eq_getElem (by rw [rcells_len]; exact hlt)]
          rfl
        · obtain rfl : i = S.length * 2 := by omega
          rw [List.getElem?_append_right (by rw [rcells_len]; omega), List.getElem?_append_right (by rw [rcells_len]; omega), rcells_len, Nat.sub_self]
          rfl
    · rename_i hi
      rw [List.getElem?_eq_none]
      rw [List.length_append, rcells_len]
      simp only [List.length_cons, List.length_nil]
      omega
theorem own_some {W : World} {B n c : Nat} {t : TypeId} {G : Option Addr} {xs : List Value} (h : W.ownsRow B t 2 (.slice G n c) n xs) (hn : 1 ≤ n) : ∃ g, G = some ⟨g, 0, none⟩ ∧ g < W.heap.size ∧ B ≤ g ∧ ∀ o, W.frozen? ⟨g, o, none⟩ = false := by
  rcases h.2 with ⟨_, e⟩ | ⟨g, cap, cur, e, hB, hh, _⟩
  · omega
  · injection e with e
    exact ⟨g, e, (Array.getElem?_eq_some_iff.1 hh).1, hB, fun o => (show W.rowIs g t cur.size (fun i => cur[i]?.getD (.bool false)) from ⟨cur, hh, rfl, fun i hi => by simp [hi]⟩).frozen o⟩

theorem run_info : (Tryz.prog.info? 138).map (fun i => (i.zero, i.size, i.bytes)) = some (some (.agg #[.int .i64 0, .int .i64 0]), 2, 16) := by kernel_rfl
theorem cells_two_new (w : World) (x y : Value) (t : TypeId) : ∀ j u, [x, y][j]? = some u → (w.alloc (.cells #[x, y] t)).cell? ((⟨w.heap.size, 0, none⟩ : Addr).add j) = some u := by
  intro j u hj
  match j, hj with
  | 0, hj =>
    simp at hj
    subst hj
    simp [Addr.add]
  | 1, hj =>
    simp at hj
    subst hj
    simp [Addr.add]

/-- runs of the call's own -/
def GotR (t : TypeId) (w wr : World) (G : Option Addr) (n gc : Nat) (l : List Run) : Prop := wr.ownsRow w.heap.size t 2 (.slice G n gc) n (rcells l) ∧ Below w.heap.size w wr
/-- runs that a call answers -/
def RsR (w : World) (l : List Run) (e : Ending) (w' : World) : Prop := ∃ (G : Option Addr) (gc : Nat), e = .returned (.slice G l.length gc) ∧ Rs w' w.heap.size G l ∧ Below w.heap.size w w'

theorem frs_len (f : Nat → Bool) : ∀ n, (frs f n).length ≤ n
  | 0 => Nat.le_refl _
  | b + 1 => by
    have ih := frs_len f b
    rw [frs]
    split
    · omega
    · unfold ext
      split
      · split
        · simp; omega
        · simp; omega
      · simp; omega

/-- between two rounds of Free -/
def Rf (w wr : World) (f : Nat → Bool) (n g s : Nat) (L m : List Run) (G : Option Addr) (k gc : Nat) : Prop :=
  From f n s m ∧ Own2 wr g ((hd m).1 : Int) ((hd m).2 : Int) ∧ w.heap.size ≤ g ∧ GotR 138 w wr G k gc (L.take k) ∧ k ≤ L.length ∧ L.drop k = m ∧ s ≤ n ∧ some g ≠ (Value.slice G k gc).ownBlock

section
variable {w : World} {p q K C n : Nat} {f : Nat → Bool}
set_option maxRecDepth 100000 in
set_option maxHeartbeats 2000000 in
theorem free_any' (h : Mp w p q K C n f) (hT : Tab w) :
    Calls Tryz.prog 163 #[.pointer (some ⟨p, 0, none⟩)] w (RsR w (frs f n)) := by
  have hmx := h.max
  have HM0 := Lib.hid h
  have HT0 := Lib.hid hT
  have hlen := frs_len f n
  have hF := from_frs f n
  generalize frs f n = L at *
  have H0 := Lib.hid (freeFrom_any h hT 0 L (by omega) hF)
  have HF := Lib.hid hF
  obtain ⟨i0, hi0, hz0, hz1, hz2⟩ := info_parts run_info
  clear h hT hF
  go_enter Tryz.func163, Tryz.ntmps163
  go_wp2_with fail
  refine H0.out.mono ?_
  rintro e w2 ⟨rfl, hb⟩
  have HB2 := Lib.hid hb
  clear hb
  go_wp2
  go_loopw [3, 4, 5] (fun sv gv bv wr => ∃ (g s k gc : Nat) (G : Option Addr) (m : List Run), sv = .slice G k gc ∧ gv = .pointer (some ⟨g, 0, none⟩) ∧ bv = .bool (!m.isEmpty) ∧ Rf w wr f n g s L m G k gc) (fun _ gv bv wr => mu n gv bv wr)
  case atStart =>
    refine ⟨w2.heap.size, 0, 0, 0, none, L, rfl, rfl, rfl, HF.out, own2_new w2 _ _ _, HB2.out.size, ⟨⟨by rw [List.take_zero]; rfl, .inl ⟨rfl, rfl⟩⟩, HB2.out.alloc HB2.out.size _⟩, Nat.zero_le _, rfl, Nat.zero_le _, by simp [Value.ownBlock]⟩
  case round =>
    obtain ⟨g, s, k, gc, G, m, rfl, rfl, rfl, hF, hg, hwg, hgot, hk, hdr, hsn, hne⟩ := hrel
    cases m with
    | nil =>
      have hk2 : k = L.length := by
        have := congrArg List.length hdr
        simp at this
        omega
      subst hk2
      rw [List.take_length] at hgot
      obtain ⟨hrs, -⟩ := own_rs hgot.1
      have HE := Lib.hid (show RsR w L (.returned (.slice G L.length gc)) wr from ⟨G, gc, rfl, hrs, hgot.2⟩)
      clear hF hg hgot hdr hne hrs hk
      simp only [List.isEmpty_nil, Bool.not_true]
      go_wp2
      go_ret
      exact HE.out
    | cons r m =>
      obtain ⟨a, c⟩ := r
      obtain ⟨_, h1, h2, h3, _, hF2, _⟩ := hF.next_some
      have hlt : k < L.length := by
        have := congrArg List.length hdr
        simp at this
        omega
      have HTK := Lib.hid (show L.take (k + 1) = L.take k ++ [(a, c)] ∧ L.drop (k + 1) = m from by
        have e : L[k] :: L.drop (k + 1) = (a, c) :: m := by rw [← List.drop_eq_getElem_cons hlt]; exact hdr
        injection e with e1 e2
        exact ⟨by rw [List.take_succ_eq_append_getElem hlt, e1], e2⟩)
      have hg0 : wr.cell? ⟨g, 0, none⟩ = some (.int .i64 (a : Int)) := hg.c0
      have hg1 : wr.cell? ⟨g, 1, none⟩ = some (.int .i64 (c : Int)) := hg.c1
      have HMU := Lib.hid (mu_yes (n := n) (show Own2 wr g (a : Int) (c : Int) from hg))
      have HG := Lib.hid hgot
      have HGG := Lib.hid hg
      have hkn : k ≤ 65534 := by omega
      have HOWN := Lib.hid (hgot.1.alloc (.cells #[.int .i64 (a : Int), .int .i64 (c : Int)] 138))
      have HB3 := Lib.hid (hgot.2.alloc hgot.2.size (.cells #[.int .i64 (a : Int), .int .i64 (c : Int)] 138))
      have HCT := Lib.hid (cells_two_new wr (.int .i64 (a : Int)) (.int .i64 (c : Int)) 138)
      clear hF hg hgot hdr hk
      simp only [List.isEmpty_cons, Bool.not_false]
      have hgl := HGG.out.lt
      obtain ⟨d, hd⟩ : ∃ d, d = a + c := ⟨_, rfl⟩
      rw [← hd] at hF2
      have hsum : (a : Int) + (c : Int) = (d : Int) := by omega
      have hdn : d ≤ n := by omega
      have HD := Lib.hid hd
      have HF3 := Lib.hid hF2
      clear hF2 hd
      go_wp2_with (at_builtin; refine wpList_append_own_at _ rfl (.tmp 22) (.tmp 24) 173 rfl w.heap.size 138 i0 (.agg #[.int .i64 0, .int .i64 0]) 2 16 Tryz.underlying173 hi0 hz0 hz1 hz2 rfl (by decide) (.slice G k gc) k (rcells (L.take k)) rfl HOWN.out ⟨wr.heap.size, 0, none⟩ 1 1 [.int .i64 (a : Int), .int .i64 (c : Int)] rfl rfl HCT.out (by simp [Value.oneCell']) (by unfold maxLen; omega) (by omega) (by have := HB3.out.size; omega) ?_
                   intro v' w3 hown3 hgr3 _ _
                   obtain ⟨G', gc', rfl⟩ := row_slice2 hown3
                   have HO3 := Lib.hid hown3
                   have HG3 := Lib.hid hgr3
                   have HB4 := Lib.hid (HB3.out.grown hgr3 HB3.out.size (fun k hk => row_base_lt2 HG.out.1 hk))
                   have HL3 := Lib.hid (fun g hg => (World.ownsRow.lt hown3 g hg).2)
                   have HGG3 := Lib.hid ((HGG.out.keep ((Below.refl _ _).alloc (Nat.le_refl _) _)).grown hgr3 hne)
                   have hg30 : w3.cell? ⟨g, 0, none⟩ = some (.int .i64 (a : Int)) := HGG3.out.c0
                   have hg31 : w3.cell? ⟨g, 1, none⟩ = some (.int .i64 (c : Int)) := HGG3.out.c1
                   have hg3l := HGG3.out.lt
                   clear hown3 hgr3 hg0 hg1)
      have hba := (Below.refl w3.heap.size w3).alloc (Nat.le_refl _) (.cells #[.int .i64 (a : Int), .int .i64 (c : Int)] 138)
      have HB5 := Lib.hid (HB4.out.alloc HB4.out.size (.cells #[.int .i64 (a : Int), .int .i64 (c : Int)] 138))
      have HOZ := Lib.hid (own2_new w3 (a : Int) (c : Int) 138)
      have HO4 := Lib.hid (own_keep2 HO3.out hba)
      have HC := Lib.hid (freeFrom_any (HM0.out.keep HB5.out) (HT0.out.below HB5.out HT0.out.lt) d m (by omega) HF3.out)
      have hzw : w.heap.size ≤ w3.heap.size := HB4.out.size
      clear hba hg30 hg31
      generalize w3.alloc (.cells #[.int .i64 (a : Int), .int .i64 (c : Int)] 138) = w4 at *
      generalize w3.heap.size = z at *
      (with_reducible refine HC.out.mono ?_)
      rintro e w5 ⟨rfl, hb⟩
      have HB6 := Lib.hid (HB5.out.trans (hb.mono HB5.out.size))
      have HOZ5 := Lib.hid (HOZ.out.keep hb)
      have HO5 := Lib.hid (own_keep2 HO4.out hb)
      have hfz0 := HOZ5.out.f 0
      have hfz1 := HOZ5.out.f 1
      have hcz0 := HOZ5.out.c0
      have hcz1 := HOZ5.out.c1
      clear hb hsum
      go_wp2
      have HX := Lib.hid (HOZ5.out.put ((hd m).1 : Int) ((hd m).2 : Int))
      have HXO := Lib.hid (own_keepN2 HO5.out (((Below.refl z w5).setCell (p := ⟨z, 0, none⟩) (Nat.le_refl _) (.int .i64 ((hd m).1 : Int))).setCell (p := ⟨z, 1, none⟩) (Nat.le_refl _) (.int .i64 ((hd m).2 : Int))) HL3.out)
      have HXB := Lib.hid ((HB6.out.setCell (p := ⟨z, 0, none⟩) hzw (.int .i64 ((hd m).1 : Int))).setCell (p := ⟨z, 1, none⟩) hzw (.int .i64 ((hd m).2 : Int)))
      refine ⟨⟨z, d, k + 1, gc', G', m, rfl, rfl, rfl, HF3.out, HX.out, hzw, ⟨?_, HXB.out⟩, by omega, HTK.out.2, by omega, fun e => Nat.lt_irrefl z (HL3.out z e.symm)⟩, ?_⟩
      · rw [HTK.out.1, rcells_snoc]
        exact HXO.out
      · rw [HMU.out]
        exact mu_less HX.out HF3.out (by have := HD.out; omega) (by omega)
end
end Rn
end Go.Proofs.YtilolepbfmcbgaaGreatDoor
