/- RunFits, walked. -/
import Derived.Test.YtblibjjnbbleeaaDoorRunFreeLaw
namespace Go.Proofs.YtblibjjnbbleeaaDoor
open Go.RowKit Go.MapKept
namespace Rn
open Bm

/-- so many free ones begin there -/
def Ok (f : Nat → Bool) (n c b : Nat) : Prop := b + c ≤ n ∧ ∀ d, b ≤ d → d < b + c → f d = false
theorem fit_first {f : Nat → Bool} {n c s : Nat} {l : List Run} (hc : 1 ≤ c) (h : From f n s l) : (fit l c = none → ∀ b, s ≤ b → ¬ Ok f n c b) ∧ ∀ r, fit l c = some r → r.2 = c ∧ s ≤ r.1 ∧ Ok f n c r.1 ∧ ∀ b, s ≤ b → b < r.1 → ¬ Ok f n c b := by
  induction h with
  | @none s g =>
    refine ⟨fun _ b hb ho => ?_, fun r hr => by cases hr⟩
    have h1 := ho.2 b (Nat.le_refl _) (by omega)
    rw [g b hb (by have := ho.1; omega)] at h1
    cases h1
  | @some s a e l h1 h2 h3 h4 h5 h6 h7 ih =>
    have ahead : ∀ b, s ≤ b → b < a → ¬ Ok f n c b := fun b hb hba ho => by
      have := ho.2 b (Nat.le_refl _) (by omega)
      rw [h4 b hb hba] at this
      cases this
    by_cases hk : c ≤ e - a
    · rw [fit_yes hk]
      refine ⟨fun hn => (by cases hn), fun r hr => ?_⟩
      injection hr with hr
      subst hr
      exact ⟨rfl, h1, ⟨by simp only; omega, fun d x y => h5 d x (by simp only at y; omega)⟩, fun b hb hba => ahead b hb hba⟩
    · rw [fit_no hk]
      have mid : ∀ b, s ≤ b → b < e → ¬ Ok f n c b := fun b hb hbe ho => by
        by_cases hba : b < a
        · exact ahead b hb hba ho
        · rcases h6 with x | x
          · have := ho.1
            omega
          · have := ho.2 e (by omega) (by omega)
            rw [x] at this
            cases this
      refine ⟨fun hn b hb => ?_, fun r hr => ?_⟩
      · by_cases hbe : b < e
        · exact mid b hb hbe
        · exact ih.1 hn b (by omega)
      · obtain ⟨i1, i2, i3, i4⟩ := ih.2 r hr
        exact ⟨i1, by omega, i3, fun b hb hbr => by
          by_cases hbe : b < e
          · exact mid b hb hbe
          · exact i4 b (by omega) hbr⟩
theorem rgb_ok {f : Nat → Bool} {n c a : Nat} (hc : 1 ≤ c) (h : Ok f n c a) : rgb n f (a : Int) (c : Int) = true :=
  rgb_iff.2 ⟨⟨by omega, by omega, by have := h.1; omega⟩, fun b h1 h2 => h.2 b (by omega) (by omega)⟩
/-- free ones from b on -/
def Fr (f : Nat → Bool) (b k : Nat) : Prop := ∀ d, b ≤ d → d < b + k → f d = false
theorem Fr.step {f : Nat → Bool} {b k d : Nat} (h : Fr f b k) (hd : d = b + k) (hf : f d = false) : Fr f b (k + 1) := fun x h1 h2 => by
  by_cases e : x = d
  · rw [e, hf]
  · exact h x h1 (by omega)
theorem Fr.few {f : Nat → Bool} {n c b k : Nat} (h : Fr f b k) (hk : b + k ≤ n) (hn : ¬ Ok f n c b) : ¬ c ≤ k := fun hc => hn ⟨by omega, fun d h1 h2 => h d h1 (by omega)⟩

set_option maxRecDepth 100000 in
set_option maxHeartbeats 4000000 in
theorem fits_law (w : World) (hT : Tab w) (n : Nat) (hn : n < 65536) (A : Option Addr) (c : Nat) (us : List Nat) (h : Uns .u16 w A us) (hu : ∀ u ∈ us, u < 65536) (hl : us.length ≤ 9223372036854775807) (q : Nat) (hq : q < 256) :
    Calls Tryd.prog 3 #[.int .u16 (n : Int), .slice A us.length c, .int .u8 (q : Int)] w fun e w' => e = .returned (.bool true) ∧ Below w.heap.size w w' := by
  have hlt := hT.lt
  have HT := Lib.hid hT
  have HL := Lib.hid (fun (w' : World) (h : Tab w') => lives_any w' h)
  have HD := Lib.hid (fun (w' : World) (h : Uns .u16 w' A us) => draw_any w' n hn A c us h hu hl)
  have H := Lib.hid h
  clear hT h hu
  by_cases hlen : us.length ≤ 200
  · have hl1 : ¬ (200 : Int) < (us.length : Int) := by omega
    have hk := drw_max n
    generalize 1 + n % 200 = kk at *
    obtain ⟨d0, hd0⟩ : ∃ d, d = q % 40 := ⟨_, rfl⟩
    have hd40 : d0 < 40 := by omega
    have hq40 : (q : Int) % 40 = (d0 : Int) := by omega
    obtain ⟨x, hx⟩ : ∃ x, x = 1 + d0 := ⟨_, rfl⟩
    have hxd : 1 + (d0 : Int) = (x : Int) := by omega
    have hx1 : 1 ≤ x := by omega
    have hx2 : x ≤ 40 := by omega
    clear hd0 hx
    go_enter Tryd.func3, Tryd.ntmps3
    go_wp2_with fail
    refine (HL.out _ HT.out).mono ?_
    rintro e w1 ⟨rfl, hb1⟩
    have HB1 := Lib.hid hb1
    clear hb1
    go_wp2_with fail
    refine (HD.out _ (H.out.keep HB1.out)).mono ?_
    rintro e w2 ⟨R, rc, rfl, hM, hL, hB⟩
    have HF := Lib.hid (show Fx w1 w2 kk (drw kk us) R from ⟨hM, hL, hB⟩)
    have hT1 := HT.out.below HB1.out hlt
    have HT2 := Lib.hid (fun (w' : World) (h : Below w1.heap.size w1 w') => hT1.below h hT1.lt)
    clear hM hL hB hT1
    generalize drw kk us = f at *
    have HFI := Lib.hid (fit_any HF.out.M (HT2.out _ HF.out.B) x hx1 (by omega))
    have hff := fit_first hx1 (from_frs f kk)
    generalize frs f kk = L at *
    cases hfit : fit L x with
    | none =>
      have HNO := Lib.hid (hff.1 hfit)
      rw [hfit] at HFI
      unfold fv at HFI
      simp only at HFI
      clear hff hfit
      go_wp2_with fail
      refine HFI.out.mono ?_
      rintro e w3 ⟨rfl, hb3⟩
      have HF3 := Lib.hid ((HF.out.keep hb3).keep ((Below.refl _ _).alloc (Nat.le_refl _) (.cells #[.int .i64 0, .int .i64 0] 30)))
      have HO3 := Lib.hid (own2_new w3 0 0 30)
      clear hb3
      go_wp2_with fail
      generalize hw4 : w3.alloc (.cells #[.int .i64 0, .int .i64 0] 30) = w4 at *
      clear hw4
      generalize w3.heap.size = z at *
      refine (len_any HF3.out.M).mono ?_
      rintro e w5 ⟨rfl, rfl⟩
      go_wp2
      go_loopw [40] (fun i wr => ∃ b : Nat, b ≤ kk ∧ i = .int .i64 (b : Int) ∧ Fx w1 wr kk f R ∧ Own2 wr z 0 0) (fun i _ => kk - (intOf i).toNat)
      case atStart => exact ⟨0, Nat.zero_le _, rfl, HF3.out, HO3.out⟩
      case round =>
        obtain ⟨b, hb, rfl, hF, hO⟩ := hrel
        by_cases hbk : b < kk
        · have HF4 := Lib.hid hF
          have HO4 := Lib.hid hO
          have HNB := Lib.hid (HNO.out b (Nat.zero_le _))
          clear hF hO
          go_wp2
          go_loopw [13] (fun i w6 => ∃ j : Nat, b + j ≤ kk ∧ i = .int .i64 (j : Int) ∧ Fr f b j ∧ Fx w1 w6 kk f R ∧ Own2 w6 z 0 0) (fun i _ => kk - b - (intOf i).toNat)
          case atStart => exact ⟨0, by omega, rfl, fun d h1 h2 => absurd h1 (by omega), HF4.out, HO4.out⟩
          case round =>
            obtain ⟨j, hj, rfl, hfr, hF, hO⟩ := hrel
            obtain ⟨d, hd⟩ : ∃ d, d = b + j := ⟨_, rfl⟩
            have hsum : (b : Int) + (j : Int) = (d : Int) := by omega
            have HFR := Lib.hid hfr
            have HDD := Lib.hid hd
            have hfew := hfr.few hj HNB.out
            have HF6 := Lib.hid hF
            have HO6 := Lib.hid hO
            have HLN := Lib.hid (len_any hF.M)
            have hXj : ¬ (x : Int) ≤ (j : Int) := by omega
            have hdk : d ≤ kk := by omega
            clear hfr hF hO
            by_cases hdl : d < kk
            · have hd1 : (d : Int) < (kk : Int) := by omega
              have HH := Lib.hid (has_yes HF6.out.M d hdl)
              cases hfd : f d with
              | true =>
                rw [hfd] at HH
                clear hfew hd hfd
                go_wp2_with fail
                refine HLN.out.mono ?_
                rintro e w7 ⟨rfl, rfl⟩
                go_wp2_with fail
                refine HH.out.mono ?_
                rintro e w8 ⟨rfl, k8, rfl⟩
                have HF8 := Lib.hid (HF6.out.drewN k8)
                have HO8 := Lib.hid (HO6.out.drewN k8)
                go_wp2
                refine ⟨⟨b + 1, by omega, by go_num, HF8.out, HO8.out⟩, by simp [intOf]; omega⟩
              | false =>
                rw [hfd] at HH
                have HFR2 := Lib.hid (HFR.out.step HDD.out hfd)
                clear hfew hd hfd
                go_wp2_with fail
                refine HLN.out.mono ?_
                rintro e w7 ⟨rfl, rfl⟩
                go_wp2_with fail
                refine HH.out.mono ?_
                rintro e w8 ⟨rfl, k8, rfl⟩
                have HF8 := Lib.hid (HF6.out.drewN k8)
                have HO8 := Lib.hid (HO6.out.drewN k8)
                go_wp2
                refine ⟨⟨j + 1, by have := HDD.out; omega, by go_num, HFR2.out, HF8.out, HO8.out⟩, by have := HDD.out; simp [intOf]; omega⟩
            · have hd1 : ¬ (d : Int) < (kk : Int) := by omega
              clear hfew hd
              go_wp2_with fail
              refine HLN.out.mono ?_
              rintro e w7 ⟨rfl, rfl⟩
              go_wp2
              refine ⟨⟨b + 1, by omega, by go_num, HF6.out, HO6.out⟩, by simp [intOf]; omega⟩
        · obtain rfl : b = kk := by omega
          have hc0 := hO.c0
          have hc1 := hO.c1
          have HB := Lib.hid (HB1.out.trans (hF.B.mono HB1.out.size))
          clear hF hO
          go_wp2
          go_ret
          exact ⟨rfl, HB.out⟩
    | some r =>
      obtain ⟨a, y⟩ := r
      obtain ⟨hy, _, hok, hno⟩ := hff.2 _ hfit
      simp only at hy hok hno
      subst hy
      have HNO := Lib.hid hno
      have HRG := Lib.hid (rgb_ok hx1 hok)
      have hak : a < kk := by have := hok.1; omega
      rw [hfit] at HFI
      unfold fv at HFI
      simp only at HFI
      clear hff hfit hok hno
      go_wp2_with fail
      refine HFI.out.mono ?_
      rintro e w3 ⟨rfl, hb3⟩
      have HF3 := Lib.hid ((HF.out.keep hb3).keep ((Below.refl _ _).alloc (Nat.le_refl _) (.cells #[.int .i64 (a : Int), .int .i64 (y : Int)] 30)))
      have HO3 := Lib.hid (own2_new w3 (a : Int) (y : Int) 30)
      clear hb3
      go_wp2_with fail
      generalize hw4 : w3.alloc (.cells #[.int .i64 (a : Int), .int .i64 (y : Int)] 30) = w4 at *
      clear hw4
      generalize w3.heap.size = z at *
      refine (len_any HF3.out.M).mono ?_
      rintro e w5 ⟨rfl, rfl⟩
      go_wp2
      go_loopw [40] (fun i wr => ∃ b : Nat, b ≤ a ∧ i = .int .i64 (b : Int) ∧ Fx w1 wr kk f R ∧ Own2 wr z (a : Int) (y : Int)) (fun i _ => kk - (intOf i).toNat)
      case atStart => exact ⟨0, Nat.zero_le _, rfl, HF3.out, HO3.out⟩
      case round =>
        obtain ⟨b, hb, rfl, hF, hO⟩ := hrel
        by_cases hba : b < a
        · have HF4 := Lib.hid hF
          have HO4 := Lib.hid hO
          have HNB := Lib.hid (HNO.out b (Nat.zero_le _) hba)
          have hbk : b < kk := by omega
          have hne : ((b : Int) == (a : Int)) = false := by simp; omega
          have hoc0 := hO.c0
          clear hF hO
          go_wp2
          go_loopw [13] (fun i w6 => ∃ j : Nat, b + j ≤ kk ∧ i = .int .i64 (j : Int) ∧ Fr f b j ∧ Fx w1 w6 kk f R ∧ Own2 w6 z (a : Int) (y : Int)) (fun i _ => kk - b - (intOf i).toNat)
          case atStart => exact ⟨0, by omega, rfl, fun d h1 h2 => absurd h1 (by omega), HF4.out, HO4.out⟩
          case round =>
            obtain ⟨j, hj, rfl, hfr, hF, hO⟩ := hrel
            obtain ⟨d, hd⟩ : ∃ d, d = b + j := ⟨_, rfl⟩
            have hsum : (b : Int) + (j : Int) = (d : Int) := by omega
            have HFR := Lib.hid hfr
            have HDD := Lib.hid hd
            have hfew := hfr.few hj HNB.out
            have HF6 := Lib.hid hF
            have HO6 := Lib.hid hO
            have HLN := Lib.hid (len_any hF.M)
            have hXj : ¬ (y : Int) ≤ (j : Int) := by omega
            have hdk : d ≤ kk := by omega
            clear hfr hF hO
            by_cases hdl : d < kk
            · have hd1 : (d : Int) < (kk : Int) := by omega
              have HH := Lib.hid (has_yes HF6.out.M d hdl)
              cases hfd : f d with
              | true =>
                rw [hfd] at HH
                clear hfew hd hfd
                go_wp2_with fail
                refine HLN.out.mono ?_
                rintro e w7 ⟨rfl, rfl⟩
                go_wp2_with fail
                refine HH.out.mono ?_
                rintro e w8 ⟨rfl, k8, rfl⟩
                have HF8 := Lib.hid (HF6.out.drewN k8)
                have HO8 := Lib.hid (HO6.out.drewN k8)
                go_wp2
                refine ⟨⟨b + 1, by omega, by go_num, HF8.out, HO8.out⟩, by simp [intOf]; omega⟩
              | false =>
                rw [hfd] at HH
                have HFR2 := Lib.hid (HFR.out.step HDD.out hfd)
                clear hfew hd hfd
                go_wp2_with fail
                refine HLN.out.mono ?_
                rintro e w7 ⟨rfl, rfl⟩
                go_wp2_with fail
                refine HH.out.mono ?_
                rintro e w8 ⟨rfl, k8, rfl⟩
                have HF8 := Lib.hid (HF6.out.drewN k8)
                have HO8 := Lib.hid (HO6.out.drewN k8)
                go_wp2
                refine ⟨⟨j + 1, by have := HDD.out; omega, by go_num, HFR2.out, HF8.out, HO8.out⟩, by have := HDD.out; simp [intOf]; omega⟩
            · have hd1 : ¬ (d : Int) < (kk : Int) := by omega
              clear hfew hd
              go_wp2_with fail
              refine HLN.out.mono ?_
              rintro e w7 ⟨rfl, rfl⟩
              go_wp2
              refine ⟨⟨b + 1, by omega, by go_num, HF6.out, HO6.out⟩, by simp [intOf]; omega⟩
        · obtain rfl : b = a := by omega
          have hc0 := hO.c0
          have hc1 := hO.c1
          have hrg := range_any hF.M (HT2.out _ hF.B) (b : Int) (y : Int) (by omega) (by omega) (by omega) (by omega)
          rw [HRG.out] at hrg
          have HR := Lib.hid hrg
          have HBW := Lib.hid hF.B
          clear hF hO hrg
          go_wp2_with fail
          refine HR.out.mono ?_
          rintro e w6 ⟨rfl, _, hC⟩
          have HB := Lib.hid (HB1.out.trans ((HBW.out.trans (hC.below HBW.out.size (Nat.le_refl _))).mono HB1.out.size))
          clear hC
          go_wp2
          go_ret
          exact ⟨rfl, HB.out⟩
  · have hl1 : (200 : Int) < (us.length : Int) := by omega
    go_enter Tryd.func3, Tryd.ntmps3
    go_wp2_with fail
    refine (HL.out _ HT.out).mono ?_
    rintro e w1 ⟨rfl, hb1⟩
    have HB1 := Lib.hid hb1
    clear hb1
    go_wp2_with fail
    refine (HL.out _ (HT.out.below HB1.out hlt)).mono ?_
    rintro e w2 ⟨rfl, hb2⟩
    have HB2 := Lib.hid (HB1.out.trans (hb2.mono HB1.out.size))
    clear hb2
    go_wp2
    go_ret
    exact ⟨rfl, HB2.out⟩
end Rn
end Go.Proofs.YtblibjjnbbleeaaDoor
