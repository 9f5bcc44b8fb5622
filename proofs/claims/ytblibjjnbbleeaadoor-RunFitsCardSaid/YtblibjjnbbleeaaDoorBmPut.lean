/- Blocks are put and dropped. -/
import Derived.Test.YtblibjjnbbleeaaDoorBmHas
import Derived.Deep.RegionWith
namespace Go.Proofs.YtblibjjnbbleeaaDoor
open Go.RowKit Go.MapKept
namespace Bm
open Pack (Wds Nts)

/-- whether a block is turned; what it is behind that -/
def trd (n : Nat) (is : Bool) (f : Nat → Bool) (b : Int) : Bool := decide (0 ≤ b ∧ b < (n : Int)) && (f b.toNat != is)
def trn (n : Nat) (is : Bool) (f : Nat → Bool) (b : Int) : Nat → Bool := if trd n is f b then upd f b.toNat is else f
def tnp (n : Nat) (is : Bool) (x : (Nat → Bool) × Nat) (b : Int) : (Nat → Bool) × Nat := (trn n is x.1 b, x.2 + if trd n is x.1 b then 1 else 0)
/-- one behind the other, and how many were turned -/
def tn (n : Nat) (is : Bool) (f : Nat → Bool) (l : List Int) : (Nat → Bool) × Nat := l.foldl (tnp n is) (f, 0)
theorem tn_step (n : Nat) (is : Bool) (f : Nat → Bool) (l : List Int) (k : Nat) (h : k < l.length) : tn n is f (l.take (k + 1)) = tnp n is (tn n is f (l.take k)) l[k] := by
  unfold tn
  rw [List.take_succ_eq_append_getElem h, List.foldl_append]
  rfl
theorem tn_le (n : Nat) (is : Bool) (f : Nat → Bool) (l : List Int) : ∀ k, k ≤ l.length → (tn n is f (l.take k)).2 ≤ k
  | 0, _ => by simp [tn]
  | k + 1, h => by
    have := tn_le n is f l k (by omega)
    rw [tn_step n is f l k (by omega), tnp]
    simp only
    split <;> omega
theorem tnp_out {n : Nat} {is : Bool} {x : (Nat → Bool) × Nat} {b : Int} (h : b < 0 ∨ (n : Int) ≤ b) : tnp n is x b = x := by
  have : trd n is x.1 b = false := by unfold trd; rw [decide_eq_false (by omega)]; rfl
  unfold tnp trn
  simp [this]
theorem tnp_same {n : Nat} {is : Bool} {x : (Nat → Bool) × Nat} {b : Nat} (h : x.1 b = is) : tnp n is x (b : Int) = x := by
  have : trd n is x.1 (b : Int) = false := by unfold trd; rw [Int.toNat_natCast, h]; simp
  unfold tnp trn
  simp [this]
theorem tnp_turn {n : Nat} {is : Bool} {x : (Nat → Bool) × Nat} {b : Nat} (hb : b < n) (h : x.1 b = !is) : tnp n is x (b : Int) = (upd x.1 b is, x.2 + 1) := by
  have : trd n is x.1 (b : Int) = true := by unfold trd; rw [Int.toNat_natCast, h, decide_eq_true (by omega)]; cases is <;> rfl
  unfold tnp trn
  simp [this]

theorem or_u64 (y m : Nat) (hy : y < 18446744073709551616) (hm : m < 18446744073709551616) : bits BinOp.or IntKind.u64 (y : Int) (m : Int) = ((y ||| m : Nat) : Int) := u64_or_nat y m hy hm
theorem andNot_u64 (y m : Nat) (hy : y < 18446744073709551616) (hm : m < 18446744073709551616) : bits BinOp.andNot IntKind.u64 (y : Int) (m : Int) = ((y &&& (18446744073709551615 - m) : Nat) : Int) := u64_andNot_nat y m hy hm

section
variable {w : World} {p q K C n : Nat} {f : Nat → Bool}
set_option maxRecDepth 100000 in
set_option maxHeartbeats 2000000 in
theorem put_any (h : Mp w p q K C n f) (A : Option Addr) (c : Nat) (l : List Int) (hl : ∀ w', Chg q w w' → Nts w' A l) :
    Calls Tryd.prog 25 #[.pointer (some ⟨p, 0, none⟩), .slice A l.length c] w fun e w' => e = .returned (.int .i64 ((tn n true f l).2 : Int)) ∧ Mp w' p q K C n (tn n true f l).1 ∧ Chg q w w' := by
  have hlen := (hl w (Chg.refl q w)).len
  have H := Lib.hid h
  have HL := Lib.hid hl
  clear h hl
  go_enter Tryd.func25, Tryd.ntmps25
  go_wp2
  go_loopw [5, 10] (fun a i wr => ∃ k : Nat, k ≤ l.length ∧ i = .int .i64 (k : Int) ∧ a = .int .i64 ((tn n true f (l.take k)).2 : Int) ∧ Mp wr p q K C n (tn n true f (l.take k)).1 ∧ Chg q w wr) (fun _ i _ => l.length - (intOf i).toNat)
  case atStart => exact ⟨0, Nat.zero_le _, rfl, rfl, H.out, Chg.refl _ _⟩
  case round =>
    obtain ⟨k, hk, rfl, rfl, hM, hC⟩ := hrel
    by_cases hlt : k < l.length
    · obtain ⟨b, o, rfl, hb, hcell⟩ := (HL.out _ hC).at' k hlt
      have HS := Lib.hid (tn_step n true f l k hlt)
      have hle := tn_le n true f l k hk
      have HM := Lib.hid hM
      have HC := Lib.hid hC
      generalize tn n true f (l.take k) = X at *
      generalize l[k] = x at *
      clear hM hC
      have hi0 : (0 : Int) ≤ (k : Int) := by omega
      have hi1 : (k : Int) < (l.length : Int) := by omega
      obtain ⟨g, cn⟩ := X
      simp only at hle HM HS
      by_cases hin : x < 0 ∨ (n : Int) ≤ x
      · have HS2 := Lib.hid (HS.out.trans (tnp_out hin))
        have HI := Lib.hid (isBlock_no HM.out x hin)
        clear hin
        go_wp2_with fail
        refine HI.out.mono ?_
        rintro e w' ⟨rfl, rfl⟩
        go_wp2
        refine ⟨⟨k + 1, by omega, by go_num, by rw [HS2.out], by rw [HS2.out]; exact HM.out, HC.out⟩, by simp [intOf]; omega⟩
      · obtain ⟨d, rfl⟩ := Int.eq_ofNat_of_zero_le (show 0 ≤ x by omega)
        have hd : d < n := by omega
        clear hin
        have HI := Lib.hid (isBlock_yes HM.out d hd)
        have HH := Lib.hid (has_yes HM.out d hd)
        cases hgd : g d with
        | true =>
          rw [hgd] at HH
          have HS2 := Lib.hid (HS.out.trans (tnp_same (b := d) (x := (g, cn)) hgd))
          clear hgd
          go_wp2_with fail
          refine HI.out.mono ?_
          rintro e w' ⟨rfl, rfl⟩
          go_wp2_with fail
          refine HH.out.mono ?_
          rintro e w' ⟨rfl, kk, rfl⟩
          go_wp2
          refine ⟨⟨k + 1, by omega, by go_num, by rw [HS2.out], by rw [HS2.out]; exact HM.out.drewN kk, HC.out.drewN kk⟩, by simp [intOf]; omega⟩
        | false =>
          rw [hgd] at HH
          have HS2 := Lib.hid (HS.out.trans (tnp_turn (b := d) (x := (g, cn)) hd hgd))
          clear hgd
          go_wp2_with fail
          refine HI.out.mono ?_
          rintro e w' ⟨rfl, rfl⟩
          go_wp2_with fail
          refine HH.out.mono ?_
          rintro e w' ⟨rfl, kk, rfl⟩
          have HM2 := Lib.hid (HM.out.drewN kk)
          have HC2 := Lib.hid (HC.out.drewN kk)
          generalize wr.drewN kk = w2 at *
          clear HM HC HI HH hcell hb
          have hc1 := HM2.out.c1
          have hkk := HM2.out.kk
          have hmx := HM2.out.max
          have HB := Lib.hid (fun w => bitOf_any d (by omega) w)
          have hrc := HM2.out.row.cell (i := d / 64) (by omega)
          have hrf := HM2.out.row.frozen (d / 64)
          have hor := or_u64 _ _ (wd_lt g (d / 64)) (pow_lt64 (Nat.mod_lt d (show 64 > 0 by omega)))
          rw [wd_or] at hor
          have HN := Lib.hid (HM2.out.set d hd true)
          have HN2 := Lib.hid (HC2.out.setCell (p := ⟨q, d / 64, none⟩) rfl (.int .u64 (wd (upd g d true) (d / 64) : Int)))
          have hd1 : d / 64 < K := by omega
          have he : (d : Int) / 64 = ((d / 64 : Nat) : Int) := rfl
          have ht : (d : Int).tdiv 64 = ((d / 64 : Nat) : Int) := rfl
          have hwd : IntKind.wrap .i64 ((d / 64 : Nat) : Int) = ((d / 64 : Nat) : Int) := by rw [IntKind.wrap_i64]; omega
          generalize wd (upd g d true) (d / 64) = z at *
          generalize wd g (d / 64) = y at *
          generalize 2 ^ (d % 64) = u at *
          generalize d / 64 = dd at *
          have hd0 : (0 : Int) ≤ (dd : Int) := by omega
          have hd2 : (dd : Int) < (K : Int) := by omega
          clear hkk hd1 hmx
          go_wp2_with fail
          go_region_with ((go_at_call 33; refine (HB.out _).mono ?_; rintro e w' ⟨rfl, rfl⟩))
          all_goals
            clear he ht hwd hor hd0 hd2 hc1 hrc hrf
            go_wp2
            refine ⟨⟨k + 1, by omega, by go_num, by rw [HS2.out]; go_num, by rw [HS2.out]; exact HN.out.drew, HN2.out.drew⟩, by simp [intOf]; omega⟩
    · obtain rfl : k = l.length := by omega
      rw [List.take_length] at hM
      have HM := Lib.hid hM
      have HC := Lib.hid hC
      clear hM hC
      go_wp2
      go_ret
      refine ⟨by rw [List.take_length]; rfl, HM.out, HC.out⟩
end
end Bm
end Go.Proofs.YtblibjjnbbleeaaDoor
