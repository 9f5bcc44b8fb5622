/- RunTakes, walked. -/
import Derived.Test.YtblibjjnbbleeaaDoorRunFreeLaw
import Derived.Test.YtblibjjnbbleeaaDoorRunRefTake
namespace Go.Proofs.YtblibjjnbbleeaaDoor
open Go.RowKit Go.MapKept
namespace Rn
open Bm
open Pack (Nts)

set_option maxRecDepth 100000 in
set_option maxHeartbeats 4000000 in
theorem takes_law (w : World) (hT : Tab w) (n : Nat) (hn : n < 65536) (A : Option Addr) (c : Nat) (us : List Nat) (h : Uns .u16 w A us) (hu : ∀ u ∈ us, u < 65536) (hl : us.length ≤ 9223372036854775807) (E : Option Addr) (ec : Nat) (cs : List Int) (hcs : Nts w E cs) :
    Calls Tryd.prog 5 #[.int .u16 (n : Int), .slice A us.length c, .slice E cs.length ec] w fun e w' => e = .returned (.bool true) ∧ Below w.heap.size w w' := by
  have hlt := hT.lt
  have hcl := hcs.len
  have HT := Lib.hid hT
  have HL := Lib.hid (fun (w' : World) (h : Tab w') => lives_any w' h)
  have HD := Lib.hid (fun (w' : World) (h : Uns .u16 w' A us) => draw_any w' n hn A c us h hu hl)
  have H := Lib.hid h
  have HN := Lib.hid hcs
  clear hT h hu hcs
  by_cases hlen : us.length ≤ 200 ∧ cs.length ≤ 30
  · obtain ⟨hlen, hlen2⟩ := hlen
    have hl1 : ¬ (200 : Int) < (us.length : Int) := by omega
    have hl2 : ¬ (30 : Int) < (cs.length : Int) := by omega
    have hk := drw_max n
    have hk1 : 1 ≤ 1 + n % 200 := by omega
    generalize 1 + n % 200 = kk at *
    go_enter Tryd.func5, Tryd.ntmps5
    go_wp2_with fail
    refine (HL.out _ HT.out).mono ?_
    rintro e w1 ⟨rfl, hb1⟩
    have HB1 := Lib.hid hb1
    clear hb1
    go_wp2_with fail
    refine (HD.out _ (H.out.keep HB1.out)).mono ?_
    rintro e w2 ⟨R, rc, rfl, hM, hL, hB⟩
    have HF := Lib.hid (show Fx w1 w2 kk (drw kk us) R from ⟨hM, hL, hB⟩)
    have hT1 := HT.out.below HB1.out hlt
    have HT2 := Lib.hid (fun (w' : World) (h : Below w1.heap.size w1 w') => hT1.below h hT1.lt)
    have HQ := Lib.hid (Nat.ne_of_lt hT1.lt)
    clear hM hL hB hT1
    generalize drw kk us = f0 at *
    go_wp2
    go_loopw [8, 37] (fun bv i wr => ∃ (j rc : Nat) (R : Option Addr) (f : Nat → Bool), j ≤ cs.length ∧ i = .int .i64 (j : Int) ∧ bv = .slice R kk rc ∧ Fx w1 wr kk f R) (fun _ i _ => cs.length - (intOf i).toNat)
    case atStart => exact ⟨0, _, _, _, Nat.zero_le _, rfl, rfl, HF.out⟩
    case round =>
      obtain ⟨j, rc, R, f, hj, rfl, rfl, hF⟩ := hrel
      have hbw : Below w.heap.size w wr := HB1.out.trans (hF.B.mono HB1.out.size)
      by_cases hjl : j < cs.length
      · obtain ⟨b, o, rfl, hbb, hcell⟩ := (HN.out.keep hbw).at' j hjl
        have hxi := HN.out.i64 cs[j] (List.getElem_mem _)
        generalize cs[j] = x at *
        have hi0 : (0 : Int) ≤ (j : Int) := by omega
        have hi1 : (j : Int) < (cs.length : Int) := by omega
        have HF2 := Lib.hid hF
        clear hF hbw
        by_cases hx : x < 0 ∨ ((kk - cnt f kk : Nat) : Int) < x
        · have HRT := Lib.hid (refTake_no R rc HF2.out.L (by omega) x hx)
          have HTK := Lib.hid (take_no HF2.out.M x hx)
          clear hx
          go_wp2_with fail
          refine HRT.out.mono ?_
          rintro e w3 ⟨rfl, rfl⟩
          go_wp2_with fail
          refine HTK.out.mono ?_
          rintro e w3 ⟨rfl, k3, rfl⟩
          have HF3 := Lib.hid (HF2.out.drewN k3)
          generalize wr.drewN k3 = w3 at *
          have HS := Lib.hid (same_any w3 0 0 none none 0 0 [] ⟨fun j hj => absurd hj (by simp)⟩ ⟨fun j hj => absurd hj (by simp)⟩ (by simp))
          go_wp2_with fail
          refine HS.out.mono ?_
          rintro e w4 ⟨rfl, k4, rfl⟩
          have HF4 := Lib.hid (HF3.out.drewN k4)
          generalize w3.drewN k4 = w4 at *
          go_wp2_with fail
          refine (lawSame_any HF4.out.M R rc HF4.out.L).mono ?_
          rintro e w5 ⟨rfl, hb5⟩
          have HF5 := Lib.hid (HF4.out.keep hb5)
          clear hb5
          go_wp2
          refine ⟨⟨j + 1, rc, R, f, by omega, by go_num, rfl, HF5.out⟩, by simp [intOf]; omega⟩
        · obtain ⟨y, rfl⟩ := Int.eq_ofNat_of_zero_le (show 0 ≤ x by omega)
          have hy : y ≤ kk - cnt f kk := by omega
          have HRT := Lib.hid (refTake_yes R rc HF2.out.L (by omega) hk1 HF2.out.M.row.lt y hy)
          have HTK := Lib.hid (fun (w' : World) (h : Fx w1 w' kk f R) => take_yes h.M (HT2.out _ h.B) HQ.out y hy)
          have htot := tot_cho (frs f kk) y (by rw [tot_frs]; exact hy)
          have hchl := cho_len (frs f kk) y
          have hfl := frs_len f kk
          have hll : (cho (frs f kk) y).length ≤ 1000 := by omega
          generalize cho (frs f kk) y = l at *
          have HTOT := Lib.hid htot
          clear hx hxi htot hchl hfl
          have hy2 : y ≤ 200 := by omega
          go_wp2_with fail
          refine HRT.out.mono ?_
          rintro e w3 ⟨R2, rc2, G, gc, rfl, hbl, hrs, hb⟩
          have HBL3 := Lib.hid hbl
          have HRS3 := Lib.hid hrs
          have HF3 := Lib.hid (HF2.out.keep hb)
          clear hbl hrs hb
          go_wp2_with fail
          refine (HTK.out _ HF3.out).mono ?_
          rintro e w4 ⟨G2, gc2, rfl, hrs2, hM4, hC4⟩
          have HF4 := Lib.hid (show Fx w1 w4 kk (fl f l) R2 from ⟨hM4, HBL3.out.chg hC4, HF3.out.B.trans (hC4.below HF3.out.B.size (Nat.le_refl _))⟩)
          have HR4 := Lib.hid hrs2
          have HS := Lib.hid (same_any w4 _ (w1.heap.size + 1) G2 G gc2 gc l hrs2 ((HRS3.out.chg hC4 HF2.out.M.row.lt).less HF2.out.M.row.lt) (by omega))
          clear hrs2 hM4 hC4
          go_wp2_with fail
          refine HS.out.mono ?_
          rintro e w5 ⟨rfl, k5, rfl⟩
          have HF5 := Lib.hid (HF4.out.drewN k5)
          have HR5 := Lib.hid (show Rs (w4.drewN k5) _ G2 l from ⟨HR4.out.at'⟩)
          generalize w4.drewN k5 = w5 at *
          go_wp2_with fail
          refine (lawSame_any HF5.out.M R2 rc2 HF5.out.L).mono ?_
          rintro e w6 ⟨rfl, hb6⟩
          have HF6 := Lib.hid (HF5.out.keep hb6)
          have htt := total_any w6 _ G2 gc2 l (HR5.out.keep hb6) (by omega) (by rw [HTOT.out]; omega)
          rw [HTOT.out] at htt
          have HTT := Lib.hid htt
          clear hb6 htt
          go_wp2_with fail
          refine HTT.out.mono ?_
          rintro e w7 ⟨rfl, hb7⟩
          have HF7 := Lib.hid (HF6.out.keep hb7)
          clear hb7
          go_wp2
          refine ⟨⟨j + 1, rc2, R2, fl f l, by omega, by go_num, rfl, HF7.out⟩, by simp [intOf]; omega⟩
      · obtain rfl : j = cs.length := by omega
        have HB := Lib.hid hbw
        clear hF hbw
        go_wp2
        go_ret
        exact ⟨rfl, HB.out⟩
  · by_cases hl0 : us.length ≤ 200
    · have hl1 : ¬ (200 : Int) < (us.length : Int) := by omega
      have hl2 : (30 : Int) < (cs.length : Int) := by omega
      clear hlen
      go_enter Tryd.func5, Tryd.ntmps5
      go_wp2_with fail
      refine (HL.out _ HT.out).mono ?_
      rintro e w1 ⟨rfl, hb1⟩
      have HB1 := Lib.hid hb1
      clear hb1
      go_wp2_with fail
      refine (HL.out _ (HT.out.below HB1.out hlt)).mono ?_
      rintro e w2 ⟨rfl, hb2⟩
      have HB2 := Lib.hid (HB1.out.trans (hb2.mono HB1.out.size))
      clear hb2
      go_wp2
      go_ret
      exact ⟨rfl, HB2.out⟩
    · have hl1 : (200 : Int) < (us.length : Int) := by omega
      clear hlen
      go_enter Tryd.func5, Tryd.ntmps5
      go_wp2_with fail
      refine (HL.out _ HT.out).mono ?_
      rintro e w1 ⟨rfl, hb1⟩
      have HB1 := Lib.hid hb1
      clear hb1
      go_wp2_with fail
      refine (HL.out _ (HT.out.below HB1.out hlt)).mono ?_
      rintro e w2 ⟨rfl, hb2⟩
      have HB2 := Lib.hid (HB1.out.trans (hb2.mono HB1.out.size))
      clear hb2
      go_wp2
      go_ret
      exact ⟨rfl, HB2.out⟩
end Rn
end Go.Proofs.YtblibjjnbbleeaaDoor
