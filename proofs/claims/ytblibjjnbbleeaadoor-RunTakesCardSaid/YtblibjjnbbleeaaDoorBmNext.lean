/- The next block, and blocks one behind the other. -/
import Derived.Test.YtblibjjnbbleeaaDoorBmPut
namespace Go.Proofs.YtblibjjnbbleeaaDoor
open Go.RowKit Go.MapKept
namespace Bm
open Pack (Wds Nts)

theorem not_u64 (y : Nat) (hy : y < 18446744073709551616) : bits BinOp.xor IntKind.u64 IntKind.u64.max (y : Int) = ((18446744073709551615 - y : Nat) : Int) := by
  have := u64_xor_nat 18446744073709551615 y (by decide) hy
  rw [show IntKind.u64.max = ((18446744073709551615 : Nat) : Int) from rfl, this]
  congr 1
  apply Nat.eq_of_testBit_eq
  intro i
  rw [Nat.testBit_xor, not_bit _ _ hy, top_bit]
  by_cases hi : i < 64
  · simp [hi]
  · have : y.testBit i = false := Nat.testBit_lt_two_pow (Nat.lt_of_lt_of_le hy (Nat.pow_le_pow_right (n := 2) (i := 64) (by omega) (by omega)))
    simp [hi, this]

section
variable {w : World} {p q K C n : Nat} {f : Nat → Bool}
set_option maxRecDepth 100000 in
set_option maxHeartbeats 2000000 in
theorem next_true (h : Mp w p q K C n f) (hT : Tab w) (x : Int) (s : Nat) (hs : (s : Int) = max x 0) (hx : x ≤ 9223372036854775807) :
    Calls Tryd.prog 34 #[.pointer (some ⟨p, 0, none⟩), .int .i64 x, .bool true] w fun e w' => e = .returned (.int .i64 (next f true n s)) ∧ w = w' := by
  have hc1 := h.c1
  have hkk := h.kk
  have hmx := h.max
  have hs2 : s ≤ 9223372036854775807 := by omega
  have HB := Lib.hid (fun w => bitOf_any s hs2 w)
  have hp0 : 0 < 2 ^ (s % 64) := Nat.pow_pos (by omega)
  have hpl := pow_lt64 (Nat.mod_lt s (show 64 > 0 by omega))
  have H := Lib.hid h
  have HT := Lib.hid hT
  clear h hT
  obtain ⟨a0, ha0⟩ : ∃ a0 : Nat, a0 = 2 ^ (s % 64) - 1 := ⟨_, rfl⟩
  have hsub : IntKind.u64.wrap (((2 ^ (s % 64) : Nat) : Int) - 1) = (a0 : Int) := by
    subst ha0
    generalize 2 ^ (s % 64) = y at *
    rw [IntKind.wrap_u64]
    omega
  have HA := Lib.hid (show a0 = 2 ^ (s - 64 * (s / 64)) - 1 by rw [ha0, show s - 64 * (s / 64) = s % 64 by omega])
  generalize 2 ^ (s % 64) = y0 at *
  clear ha0 hp0 hpl
  rcases Int.lt_or_le x 0 with hn | hn
  · have hs0 : s = 0 := by omega
    have HZ := Lib.hid hs0
    have HB2 := Lib.hid (fun w => show Calls Tryd.prog 33 #[.int .i64 0] w _ from hs0 ▸ HB.out w)
    clear hs hs0 HB
    rename Hid (∀ (w : World), Calls _ _ #[.int .i64 0] w _) => HB
    go_enter Tryd.func34, Tryd.ntmps34
    go_wp2_with (go_at_call 33; refine (HB.out _).mono ?_; rintro e w' ⟨rfl, rfl⟩)
    clear hsub
    go_loop [7, 8] (fun a i => ∃ k : Nat, s / 64 ≤ k ∧ i = .int .i64 (k : Int) ∧ a = .int .u64 ((2 ^ (s - 64 * k) - 1 : Nat) : Int) ∧ ∀ b, s ≤ b → b < 64 * k → b < n → f b ≠ true) (fun _ i => K - (intOf i).toNat)
    case atStart => exact ⟨s / 64, Nat.le_refl _, by rw [HZ.out]; rfl, by rw [← HA.out], fun b h1 h2 => by omega⟩
    case round =>
      obtain ⟨k, hk, rfl, rfl, hpre⟩ := hrel
      have HP := Lib.hid hpre
      clear hpre
      by_cases hlt : k < K
      · have hrc := H.out.row.cell hlt
        have hlt64 : s - 64 * k < 64 := by omega
        have hal : 2 ^ (s - 64 * k) - 1 < 18446744073709551616 := by have := pow_lt64 hlt64; omega
        have han := andNot_u64 _ _ (wd_lt (fun b => f b == true) k) hal
        rw [wd_fro f true s k hlt64, wd_used] at han
        have hYl := wd_lt (fro f true s) k
        have HZ0 := Lib.hid (fun hz b h1 h2 h3 => fro_none (f := f) (u := true) (s := s) (k := k) hz b h1 h2 h3)
        have HZ1 := Lib.hid (fun hz => fro_some (n := n) (f := f) (u := true) (s := s) (k := k) HP.out hz)
        generalize wd (fro f true s) k = Y at *
        generalize wd f k = y at *
        have HA2 := Lib.hid (show 2 ^ (s - 64 * (k + 1)) - 1 = 0 by rw [show s - 64 * (k + 1) = 0 by omega])
        generalize 2 ^ (s - 64 * k) - 1 = aa at *
        clear hlt64 hal
        have hi0 : (0 : Int) ≤ (k : Int) := by omega
        have hi1 : (k : Int) < (K : Int) := by omega
        by_cases hY : Y = 0
        · have HN := Lib.hid (HZ0.out hY)
          have hz1 : ((Y : Int) == 0) = true := by simp; omega
          have hz2 : ((Y : Int) != 0) = false := by simp; omega
          clear hY
          clear HZ0 HZ1 hYl
          go_wp2
          go_round
          case rel =>
            refine ⟨k + 1, by omega, by go_num, by rw [HA2.out]; rfl, fun b h1 h2 h3 => ?_⟩
            by_cases hb : b < 64 * k
            · exact HP.out b h1 hb h3
            · exact HN.out b (by omega) h2 h1
          case measure => simp [intOf]; omega
        · obtain ⟨hnx, hc64⟩ := HZ1.out hY
          have hne : ((Y : Int) == 0) = false := by simp; omega
          have hne2 : ((Y : Int) != 0) = true := by simp; omega
          have HTZ := Lib.hid (tz_any Y hYl hY w HT.out)
          have HX := Lib.hid hnx.next
          clear hnx HZ0 HZ1 hYl hY
          generalize Lib.ctz 64 Y = c at *
          obtain ⟨v, hv⟩ : ∃ v : Nat, v = 64 * k + c := ⟨_, rfl⟩
          rw [← hv] at HX
          have hsum : (k : Int) * 64 + (c : Int) = (v : Int) := by omega
          have HBN := Lib.hid (blockOrNone_any H.out v)
          rw [HX.out] at HBN
          have hv2 : v ≤ 100000 := by omega
          clear hv
          go_wp2_with fail
          refine HTZ.out.mono ?_
          rintro e w' ⟨rfl, rfl⟩
          go_wp2_with fail
          refine HBN.out.mono ?_
          rintro e w' ⟨rfl, rfl⟩
          go_wp2
          go_ret
          exact ⟨rfl, rfl⟩
      · have HX := Lib.hid (Nx.next (.inl ⟨rfl, fun b h1 h2 => HP.out b h1 (by omega) h2⟩ : Nx f true n s (-1)))
        go_wp2
        go_ret
        exact ⟨by rw [← HX.out]; rfl, rfl⟩
  · obtain rfl : x = (s : Int) := by omega
    clear hs
    go_enter Tryd.func34, Tryd.ntmps34
    go_wp2_with (go_at_call 33; refine (HB.out _).mono ?_; rintro e w' ⟨rfl, rfl⟩)
    clear hsub
    go_loop [7, 8] (fun a i => ∃ k : Nat, s / 64 ≤ k ∧ i = .int .i64 (k : Int) ∧ a = .int .u64 ((2 ^ (s - 64 * k) - 1 : Nat) : Int) ∧ ∀ b, s ≤ b → b < 64 * k → b < n → f b ≠ true) (fun _ i => K - (intOf i).toNat)
    case atStart => exact ⟨s / 64, Nat.le_refl _, rfl, by rw [← HA.out], fun b h1 h2 => by omega⟩
    case round =>
      obtain ⟨k, hk, rfl, rfl, hpre⟩ := hrel
      have HP := Lib.hid hpre
      clear hpre
      by_cases hlt : k < K
      · have hrc := H.out.row.cell hlt
        have hlt64 : s - 64 * k < 64 := by omega
        have hal : 2 ^ (s - 64 * k) - 1 < 18446744073709551616 := by have := pow_lt64 hlt64; omega
        have han := andNot_u64 _ _ (wd_lt (fun b => f b == true) k) hal
        rw [wd_fro f true s k hlt64, wd_used] at han
        have hYl := wd_lt (fro f true s) k
        have HZ0 := Lib.hid (fun hz b h1 h2 h3 => fro_none (f := f) (u := true) (s := s) (k := k) hz b h1 h2 h3)
        have HZ1 := Lib.hid (fun hz => fro_some (n := n) (f := f) (u := true) (s := s) (k := k) HP.out hz)
        generalize wd (fro f true s) k = Y at *
        generalize wd f k = y at *
        have HA2 := Lib.hid (show 2 ^ (s - 64 * (k + 1)) - 1 = 0 by rw [show s - 64 * (k + 1) = 0 by omega])
        generalize 2 ^ (s - 64 * k) - 1 = aa at *
        clear hlt64 hal
        have hi0 : (0 : Int) ≤ (k : Int) := by omega
        have hi1 : (k : Int) < (K : Int) := by omega
        by_cases hY : Y = 0
        · have HN := Lib.hid (HZ0.out hY)
          have hz1 : ((Y : Int) == 0) = true := by simp; omega
          have hz2 : ((Y : Int) != 0) = false := by simp; omega
          clear hY
          clear HZ0 HZ1 hYl
          go_wp2
          go_round
          case rel =>
            refine ⟨k + 1, by omega, by go_num, by rw [HA2.out]; rfl, fun b h1 h2 h3 => ?_⟩
            by_cases hb : b < 64 * k
            · exact HP.out b h1 hb h3
            · exact HN.out b (by omega) h2 h1
          case measure => simp [intOf]; omega
        · obtain ⟨hnx, hc64⟩ := HZ1.out hY
          have hne : ((Y : Int) == 0) = false := by simp; omega
          have hne2 : ((Y : Int) != 0) = true := by simp; omega
          have HTZ := Lib.hid (tz_any Y hYl hY w HT.out)
          have HX := Lib.hid hnx.next
          clear hnx HZ0 HZ1 hYl hY
          generalize Lib.ctz 64 Y = c at *
          obtain ⟨v, hv⟩ : ∃ v : Nat, v = 64 * k + c := ⟨_, rfl⟩
          rw [← hv] at HX
          have hsum : (k : Int) * 64 + (c : Int) = (v : Int) := by omega
          have HBN := Lib.hid (blockOrNone_any H.out v)
          rw [HX.out] at HBN
          have hv2 : v ≤ 100000 := by omega
          clear hv
          go_wp2_with fail
          refine HTZ.out.mono ?_
          rintro e w' ⟨rfl, rfl⟩
          go_wp2_with fail
          refine HBN.out.mono ?_
          rintro e w' ⟨rfl, rfl⟩
          go_wp2
          go_ret
          exact ⟨rfl, rfl⟩
      · have HX := Lib.hid (Nx.next (.inl ⟨rfl, fun b h1 h2 => HP.out b h1 (by omega) h2⟩ : Nx f true n s (-1)))
        go_wp2
        go_ret
        exact ⟨by rw [← HX.out]; rfl, rfl⟩
set_option maxRecDepth 100000 in
set_option maxHeartbeats 2000000 in
theorem next_false (h : Mp w p q K C n f) (hT : Tab w) (x : Int) (s : Nat) (hs : (s : Int) = max x 0) (hx : x ≤ 9223372036854775807) :
    Calls Tryd.prog 34 #[.pointer (some ⟨p, 0, none⟩), .int .i64 x, .bool false] w fun e w' => e = .returned (.int .i64 (next f false n s)) ∧ w = w' := by
  have hc1 := h.c1
  have hkk := h.kk
  have hmx := h.max
  have hs2 : s ≤ 9223372036854775807 := by omega
  have HB := Lib.hid (fun w => bitOf_any s hs2 w)
  have hp0 : 0 < 2 ^ (s % 64) := Nat.pow_pos (by omega)
  have hpl := pow_lt64 (Nat.mod_lt s (show 64 > 0 by omega))
  have H := Lib.hid h
  have HT := Lib.hid hT
  clear h hT
  obtain ⟨a0, ha0⟩ : ∃ a0 : Nat, a0 = 2 ^ (s % 64) - 1 := ⟨_, rfl⟩
  have hsub : IntKind.u64.wrap (((2 ^ (s % 64) : Nat) : Int) - 1) = (a0 : Int) := by
    subst ha0
    generalize 2 ^ (s % 64) = y at *
    rw [IntKind.wrap_u64]
    omega
  have HA := Lib.hid (show a0 = 2 ^ (s - 64 * (s / 64)) - 1 by rw [ha0, show s - 64 * (s / 64) = s % 64 by omega])
  generalize 2 ^ (s % 64) = y0 at *
  clear ha0 hp0 hpl
  rcases Int.lt_or_le x 0 with hn | hn
  · have hs0 : s = 0 := by omega
    have HZ := Lib.hid hs0
    have HB2 := Lib.hid (fun w => show Calls Tryd.prog 33 #[.int .i64 0] w _ from hs0 ▸ HB.out w)
    clear hs hs0 HB
    rename Hid (∀ (w : World), Calls _ _ #[.int .i64 0] w _) => HB
    go_enter Tryd.func34, Tryd.ntmps34
    go_wp2_with (go_at_call 33; refine (HB.out _).mono ?_; rintro e w' ⟨rfl, rfl⟩)
    clear hsub
    go_loop [7, 8] (fun a i => ∃ k : Nat, s / 64 ≤ k ∧ i = .int .i64 (k : Int) ∧ a = .int .u64 ((2 ^ (s - 64 * k) - 1 : Nat) : Int) ∧ ∀ b, s ≤ b → b < 64 * k → b < n → f b ≠ false) (fun _ i => K - (intOf i).toNat)
    case atStart => exact ⟨s / 64, Nat.le_refl _, by rw [HZ.out]; rfl, by rw [← HA.out], fun b h1 h2 => by omega⟩
    case round =>
      obtain ⟨k, hk, rfl, rfl, hpre⟩ := hrel
      have HP := Lib.hid hpre
      clear hpre
      by_cases hlt : k < K
      · have hrc := H.out.row.cell hlt
        have hlt64 : s - 64 * k < 64 := by omega
        have hal : 2 ^ (s - 64 * k) - 1 < 18446744073709551616 := by have := pow_lt64 hlt64; omega
        have han := andNot_u64 _ _ (wd_lt (fun b => f b == false) k) hal
        rw [wd_fro f false s k hlt64] at han
        have hnot := not_u64 (wd f k) (wd_lt f k)
        rw [wd_free] at hnot
        have hnot2 : bits BinOp.xor IntKind.u64 (if IntKind.u64.signed = true then -1 else IntKind.u64.max) (wd f k : Int) = (wd (fun b => f b == false) k : Int) := hnot
        generalize wd (fun b => f b == false) k = nx at *
        have hYl := wd_lt (fro f false s) k
        have HZ0 := Lib.hid (fun hz b h1 h2 h3 => fro_none (f := f) (u := false) (s := s) (k := k) hz b h1 h2 h3)
        have HZ1 := Lib.hid (fun hz => fro_some (n := n) (f := f) (u := false) (s := s) (k := k) HP.out hz)
        generalize wd (fro f false s) k = Y at *
        generalize wd f k = y at *
        have HA2 := Lib.hid (show 2 ^ (s - 64 * (k + 1)) - 1 = 0 by rw [show s - 64 * (k + 1) = 0 by omega])
        generalize 2 ^ (s - 64 * k) - 1 = aa at *
        clear hlt64 hal
        have hi0 : (0 : Int) ≤ (k : Int) := by omega
        have hi1 : (k : Int) < (K : Int) := by omega
        by_cases hY : Y = 0
        · have HN := Lib.hid (HZ0.out hY)
          have hz1 : ((Y : Int) == 0) = true := by simp; omega
          have hz2 : ((Y : Int) != 0) = false := by simp; omega
          clear hY
          clear HZ0 HZ1 hYl
          go_wp2
          go_round
          case rel =>
            refine ⟨k + 1, by omega, by go_num, by rw [HA2.out]; rfl, fun b h1 h2 h3 => ?_⟩
            by_cases hb : b < 64 * k
            · exact HP.out b h1 hb h3
            · exact HN.out b (by omega) h2 h1
          case measure => simp [intOf]; omega
        · obtain ⟨hnx, hc64⟩ := HZ1.out hY
          have hne : ((Y : Int) == 0) = false := by simp; omega
          have hne2 : ((Y : Int) != 0) = true := by simp; omega
          have HTZ := Lib.hid (tz_any Y hYl hY w HT.out)
          have HX := Lib.hid hnx.next
          clear hnx HZ0 HZ1 hYl hY
          generalize Lib.ctz 64 Y = c at *
          obtain ⟨v, hv⟩ : ∃ v : Nat, v = 64 * k + c := ⟨_, rfl⟩
          rw [← hv] at HX
          have hsum : (k : Int) * 64 + (c : Int) = (v : Int) := by omega
          have HBN := Lib.hid (blockOrNone_any H.out v)
          rw [HX.out] at HBN
          have hv2 : v ≤ 100000 := by omega
          clear hv
          go_wp2_with fail
          refine HTZ.out.mono ?_
          rintro e w' ⟨rfl, rfl⟩
          go_wp2_with fail
          refine HBN.out.mono ?_
          rintro e w' ⟨rfl, rfl⟩
          go_wp2
          go_ret
          exact ⟨rfl, rfl⟩
      · have HX := Lib.hid (Nx.next (.inl ⟨rfl, fun b h1 h2 => HP.out b h1 (by omega) h2⟩ : Nx f false n s (-1)))
        go_wp2
        go_ret
        exact ⟨by rw [← HX.out]; rfl, rfl⟩
  · obtain rfl : x = (s : Int) := by omega
    clear hs
    go_enter Tryd.func34, Tryd.ntmps34
    go_wp2_with (go_at_call 33; refine (HB.out _).mono ?_; rintro e w' ⟨rfl, rfl⟩)
    clear hsub
    go_loop [7, 8] (fun a i => ∃ k : Nat, s / 64 ≤ k ∧ i = .int .i64 (k : Int) ∧ a = .int .u64 ((2 ^ (s - 64 * k) - 1 : Nat) : Int) ∧ ∀ b, s ≤ b → b < 64 * k → b < n → f b ≠ false) (fun _ i => K - (intOf i).toNat)
    case atStart => exact ⟨s / 64, Nat.le_refl _, rfl, by rw [← HA.out], fun b h1 h2 => by omega⟩
    case round =>
      obtain ⟨k, hk, rfl, rfl, hpre⟩ := hrel
      have HP := Lib.hid hpre
      clear hpre
      by_cases hlt : k < K
      · have hrc := H.out.row.cell hlt
        have hlt64 : s - 64 * k < 64 := by omega
        have hal : 2 ^ (s - 64 * k) - 1 < 18446744073709551616 := by have := pow_lt64 hlt64; omega
        have han := andNot_u64 _ _ (wd_lt (fun b => f b == false) k) hal
        rw [wd_fro f false s k hlt64] at han
        have hnot := not_u64 (wd f k) (wd_lt f k)
        rw [wd_free] at hnot
        have hnot2 : bits BinOp.xor IntKind.u64 (if IntKind.u64.signed = true then -1 else IntKind.u64.max) (wd f k : Int) = (wd (fun b => f b == false) k : Int) := hnot
        generalize wd (fun b => f b == false) k = nx at *
        have hYl := wd_lt (fro f false s) k
        have HZ0 := Lib.hid (fun hz b h1 h2 h3 => fro_none (f := f) (u := false) (s := s) (k := k) hz b h1 h2 h3)
        have HZ1 := Lib.hid (fun hz => fro_some (n := n) (f := f) (u := false) (s := s) (k := k) HP.out hz)
        generalize wd (fro f false s) k = Y at *
        generalize wd f k = y at *
        have HA2 := Lib.hid (show 2 ^ (s - 64 * (k + 1)) - 1 = 0 by rw [show s - 64 * (k + 1) = 0 by omega])
        generalize 2 ^ (s - 64 * k) - 1 = aa at *
        clear hlt64 hal
        have hi0 : (0 : Int) ≤ (k : Int) := by omega
        have hi1 : (k : Int) < (K : Int) := by omega
        by_cases hY : Y = 0
        · have HN := Lib.hid (HZ0.out hY)
          have hz1 : ((Y : Int) == 0) = true := by simp; omega
          have hz2 : ((Y : Int) != 0) = false := by simp; omega
          clear hY
          clear HZ0 HZ1 hYl
          go_wp2
          go_round
          case rel =>
            refine ⟨k + 1, by omega, by go_num, by rw [HA2.out]; rfl, fun b h1 h2 h3 => ?_⟩
            by_cases hb : b < 64 * k
            · exact HP.out b h1 hb h3
            · exact HN.out b (by omega) h2 h1
          case measure => simp [intOf]; omega
        · obtain ⟨hnx, hc64⟩ := HZ1.out hY
          have hne : ((Y : Int) == 0) = false := by simp; omega
          have hne2 : ((Y : Int) != 0) = true := by simp; omega
          have HTZ := Lib.hid (tz_any Y hYl hY w HT.out)
          have HX := Lib.hid hnx.next
          clear hnx HZ0 HZ1 hYl hY
          generalize Lib.ctz 64 Y = c at *
          obtain ⟨v, hv⟩ : ∃ v : Nat, v = 64 * k + c := ⟨_, rfl⟩
          rw [← hv] at HX
          have hsum : (k : Int) * 64 + (c : Int) = (v : Int) := by omega
          have HBN := Lib.hid (blockOrNone_any H.out v)
          rw [HX.out] at HBN
          have hv2 : v ≤ 100000 := by omega
          clear hv
          go_wp2_with fail
          refine HTZ.out.mono ?_
          rintro e w' ⟨rfl, rfl⟩
          go_wp2_with fail
          refine HBN.out.mono ?_
          rintro e w' ⟨rfl, rfl⟩
          go_wp2
          go_ret
          exact ⟨rfl, rfl⟩
      · have HX := Lib.hid (Nx.next (.inl ⟨rfl, fun b h1 h2 => HP.out b h1 (by omega) h2⟩ : Nx f false n s (-1)))
        go_wp2
        go_ret
        exact ⟨by rw [← HX.out]; rfl, rfl⟩
theorem next_any (h : Mp w p q K C n f) (hT : Tab w) (x : Int) (u : Bool) (hx : x ≤ 9223372036854775807) :
    Calls Tryd.prog 34 #[.pointer (some ⟨p, 0, none⟩), .int .i64 x, .bool u] w fun e w' => e = .returned (.int .i64 (next f u n x.toNat)) ∧ w = w' := by
  cases u
  · exact next_false h hT x x.toNat (by omega) hx
  · exact next_true h hT x x.toNat (by omega) hx
end
end Bm
end Go.Proofs.YtblibjjnbbleeaaDoor
