/- Texts laid together: ClmApartLaw. -/
import Derived.Test.YtilolepbfmcbgaaGreatDoorKs2
import Derived.Test.YtilolepbfmcbgaaGreatDoorKa1
import Derived.Test.YtilolepbfmcbgaaGreatDoorKa2
import Derived.Test.YtilolepbfmcbgaaGreatDoorKa3
import Derived.Test.YtilolepbfmcbgaaGreatDoorKr1
import Derived.Test.YtilolepbfmcbgaaGreatDoorKr2
import Derived.Test.YtilolepbfmcbgaaGreatDoorKr3
import Derived.Test.YtilolepbfmcbgaaGreatDoorKr4
import Derived.Test.YtilolepbfmcbgaaGreatDoorKr5
import Derived.Test.YtilolepbfmcbgaaGreatDoorKr6
import Derived.Test.YtilolepbfmcbgaaGreatDoorKr7
import Derived.Test.YtilolepbfmcbgaaGreatDoorKr8
import Derived.Test.YtilolepbfmcbgaaGreatDoorKr9
import Derived.Test.YtilolepbfmcbgaaGreatDoorKr10
import Derived.Test.YtilolepbfmcbgaaGreatDoorKt1
import Derived.Test.YtilolepbfmcbgaaGreatDoorKs1
/- ClaimApart, walked. -/
namespace Go.Proofs.YtilolepbfmcbgaaGreatDoor
open Go.RowKit Go.MapKept
namespace Clm
open Chn (Pt New Prt slots slots_len Mays tot blk blk_len rd pat fw own_prt own_keep3 row_cap3 row_base_lt3 rsame_yes pcells pcells_get)
open Vol (Vo Hb hb_new Ov Pl gn gs dv rawW rawW_len rdw)
open Pack (Nts i64s int_info)

/-- a row's cells -/
theorem own_cells {W : World} {B n c s : Nat} {t : TypeId} {G : Option Addr} {xs : List Value} (h : W.ownsRow B t s (.slice G n c) n xs) (hn : 0 < n) : ∃ (g : Nat) (cur : Array Value), G = some ⟨g, 0, none⟩ ∧ B ≤ g ∧ Hb W g cur t ∧ ∀ i, i < n * s → cur[i]? = xs[i]? := by
  rcases h.2 with ⟨e, h0⟩ | ⟨g, cap, cur, e, hB, hh, _, _, _, ht⟩
  · omega
  · injection e with e
    subst e
    refine ⟨g, cur, rfl, hB, hh, fun i hi => ?_⟩
    have := congrArg (·[i]?) ht
    simp only [List.getElem?_take, hi, if_true, Array.getElem?_toList] at this
    exact this
/-- the rows of an answered chain: what isn't changed yet -/
def Rws (B j : Nat) (A D : Option Addr) (l : List Pt) (w : World) : Prop := j < l.length → ∃ (gA gD : Nat) (ca cd : Array Value), A = some ⟨gA, 0, none⟩ ∧ D = some ⟨gD, 0, none⟩ ∧ B ≤ gA ∧ B ≤ gD ∧ Hb w gA ca 3 ∧ Hb w gD cd 74 ∧
  (∀ i, j ≤ i → ∀ h : i < l.length, ca[i]? = some (.int .i64 (l[i].s : Int))) ∧ (∀ i, j ≤ i → ∀ h : i < l.length, cd[i * 3]? = some (.int .i64 (l[i].x : Int)))
theorem rws_new {B : Nat} {w w' : World} {A D : Option Addr} {a d : Nat} {l : List Pt} (h1 : w.ownsRow B 3 1 (.slice A l.length a) l.length (i64s (slots l))) (h2 : w.ownsRow B 74 3 (.slice D l.length d) l.length (pcells l)) (hb : Below w.heap.size w w') : Rws B 0 A D l w' := by
  intro hl
  obtain ⟨gA, ca, e1, b1, k1, c1⟩ := own_cells h1 hl
  obtain ⟨gD, cd, e2, b2, k2, c2⟩ := own_cells h2 hl
  refine ⟨gA, gD, ca, cd, e1, e2, b1, b2, k1.keep hb, k2.keep hb, fun i _ h => ?_, fun i _ h => ?_⟩
  · rw [c1 i (by omega)]
    simp [i64s, slots, List.getElem?_eq_getElem h]
  · rw [c2 (i * 3) (by omega)]
    exact (pcells_get h).1
section
variable {ws : List Nat}
set_option maxHeartbeats 4000000 in
set_option maxRecDepth 100000 in
theorem apart_law (w : World) (hT : Bm.Tab w) (x y k : Nat) (hx : x < 256) (hy : y < 256) (hk : k < 256) (A : Option Addr) (c : Nat) (hws : Pack.Wds w A ws) :
    Calls Tryz.prog 5 #[.agg #[.int .u8 (x : Int), .int .u8 (y : Int), .int .u8 (k : Int), .slice A ws.length c]] w fun r w' => r = .returned (.bool true) ∧ Below w.heap.size w w' := by
  obtain ⟨sl', bm', bk', E, hpl⟩ := Vol.pl_any x y k
  have HL := Lib.hid (fun w' (hb : Below w.heap.size w w') => lives_any w' (hT.below hb hT.lt))
  have HO := Lib.hid (fun w' (hb : Below w.heap.size w w') => kopen_any w' x y k hx hy hk A c (hws.keep hb) hpl)
  have HPL := Lib.hid hpl
  have HT := Lib.hid (fun w' (hb : Below w.heap.size w w') => hT.below hb hT.lt)
  have hn20 := hpl.n20
  have hm20 := hpl.m20
  obtain ⟨n, hn⟩ : ∃ n, n = gn x := ⟨_, rfl⟩
  obtain ⟨m, hm⟩ : ∃ m, m = gn y := ⟨_, rfl⟩
  obtain ⟨s, hs⟩ : ∃ s, s = gs k := ⟨_, rfl⟩
  rw [← hn, ← hm, ← hs] at HO HPL
  rw [← hn] at hn20
  rw [← hm] at hm20
  clear hn hm hs hpl hT hws
  go_enter Tryz.func5, Tryz.ntmps5
  have HB0 := Lib.hid ((Below.refl w.heap.size w).alloc (Nat.le_refl _) (.cells #[.int .u8 (x : Int), .int .u8 (y : Int), .int .u8 (k : Int), .slice A ws.length c] 24))
  have HR0 := Lib.hid (hb_new w #[.int .u8 (x : Int), .int .u8 (y : Int), .int .u8 (k : Int), .slice A ws.length c] 24)
  go_wp2_with fail
  generalize w.alloc (.cells #[.int .u8 (x : Int), .int .u8 (y : Int), .int .u8 (k : Int), .slice A ws.length c] 24) = w0 at *
  refine (HL.out _ HB0.out).mono ?_
  rintro e w1 ⟨rfl, hb⟩
  have HB1 := Lib.hid (HB0.out.trans (hb.mono HB0.out.size))
  have HR1 := HR0.out.keep hb
  clear hb HL HB0 HR0
  have r0 := HR1.cell 0
  have r1 := HR1.cell 1
  have r2 := HR1.cell 2
  have r3 := HR1.cell 3
  have rl := HR1.lt
  clear HR1
  go_wp2_with fail
  refine (HO.out _ HB1.out).mono ?_
  rintro e w3 ⟨Q, vb, a, g, gc, rfl, hov⟩
  clear r0 r1 r2 r3 rl
  have hb4 := (Below.refl w3.heap.size w3).alloc (Nat.le_refl _) (.cells (dv n m s sl' bm' bk' E (.slice (some ⟨g, 0, none⟩) E gc)) 30)
  have HV4 := Lib.hid (hov.vo.keep hb4)
  have HB4 := Lib.hid ((HB1.out.trans (hov.below.mono HB1.out.size)).trans (hb4.mono (Nat.le_trans HB1.out.size hov.below.size)))
  have HX4 := Lib.hid (hb_new w3 (dv n m s sl' bm' bk' E (.slice (some ⟨g, 0, none⟩) E gc)) 30)
  have HD4 := Lib.hid (hov.wds.keep hb4)
  have HLN := Lib.hid hov.len
  have HCP := Lib.hid hov.cap
  clear hov hb4 HO HB1
  unfold dv at HV4 HB4 HX4 HD4 ⊢
  go_wp2_with fail
  generalize w3.alloc (.cells #[.int .i64 (n : Int), .int .i64 (m : Int), .int .i64 (s : Int), .int .i64 16, .int .i64 (sl' : Int), .int .i64 (bm' : Int), .int .i64 (bk' : Int), .int .i64 (E : Int), .slice (some ⟨g, 0, none⟩) E gc] 30) = w4 at *
  generalize w3.heap.size = b3 at *
  clear w3
  generalize rawW n m s E ws = W at *
  have HSC := Lib.hid (scan_any HV4.out)
  have HRS := Lib.hid (fun w' (hb : Below w4.heap.size w4 w') => rscan_any (w := w') (gc := gc) HPL.out (HD4.out.keep hb) HLN.out HCP.out)
  unfold dv at HRS
  clear HD4 HLN HCP HPL
  generalize rawW n m s E ws = W at *
  have hx4 := HX4.out
  have v0 := hx4.cell 0
  have v1 := hx4.cell 1
  have v2 := hx4.cell 2
  have v3 := hx4.cell 3
  have v4 := hx4.cell 4
  have v5 := hx4.cell 5
  have v6 := hx4.cell 6
  have v7 := hx4.cell 7
  have v8 := hx4.cell 8
  have vl := hx4.lt
  clear hx4
  refine HSC.out.mono ?_
  intro e w5 k5
  unfold ScTo at k5
  rcases k5 with ⟨hsc, rfl, hb⟩ | ⟨L, P, N, C, X, hsc, rfl, hq5, _, hb⟩
  · have HB5 := Lib.hid hb
    have HX5 := Lib.hid (HX4.out.keep hb)
    have hx5 := HX5.out
    have y0 := hx5.cell 0
    have y1 := hx5.cell 1
    have y2 := hx5.cell 2
    have y3 := hx5.cell 3
    have y4 := hx5.cell 4
    have y5 := hx5.cell 5
    have y6 := hx5.cell 6
    have y7 := hx5.cell 7
    have y8 := hx5.cell 8
    have yl := hx5.lt
    clear hx5 v0 v1 v2 v3 v4 v5 v6 v7 v8 vl hb
    go_wp2_with fail
    refine (HRS.out w5 HB5.out).mono ?_
    intro e w6 k6
    unfold RsTo at k6
    rw [hsc] at k6
    rcases k6 with ⟨_, rfl, hb⟩ | ⟨_, _, _, _, _, h1, _⟩
    case inr => cases h1
    have HB6 := Lib.hid (HB4.out.trans ((HB5.out.trans (hb.mono HB5.out.size)).mono HB4.out.size))
    have hal := HB6.out.alloc HB6.out.size (.cells #[.int .i64 0, .slice none 0 0, .slice none 0 0] 40)
    have HB7 := Lib.hid hal
    clear hb hal hsc
    go_wp2
    go_ret
    exact ⟨rfl, HB7.out⟩
  · have HB5 := Lib.hid hb
    have HX5 := Lib.hid (HX4.out.keep hb)
    have hx5 := HX5.out
    have y0 := hx5.cell 0
    have y1 := hx5.cell 1
    have y2 := hx5.cell 2
    have y3 := hx5.cell 3
    have y4 := hx5.cell 4
    have y5 := hx5.cell 5
    have y6 := hx5.cell 6
    have y7 := hx5.cell 7
    have y8 := hx5.cell 8
    have yl := hx5.lt
    have HQ5 := Lib.hid hq5
    have HV5 := Lib.hid (HV4.out.keep hb)
    clear hx5 v0 v1 v2 v3 v4 v5 v6 v7 v8 vl hb hq5
    go_wp2_with fail
    refine (HRS.out w5 HB5.out).mono ?_
    intro e w6 k6
    unfold RsTo at k6
    rw [hsc] at k6
    rcases k6 with ⟨h1, _⟩ | ⟨L', I, ic, H, hc, h1, rfl, hrc, hb⟩
    · cases h1
    injection h1 with h1
    subst h1
    have hal := (Below.refl w6.heap.size w6).alloc (Nat.le_refl _) (.cells #[.int .i64 (n : Int), .slice I L.length ic, .slice H L.length hc] 40)
    have hb7 := hb.trans (hal.mono hb.size)
    have HB7 := Lib.hid (HB5.out.trans (hb7.mono HB5.out.size))
    have HQ7 := Lib.hid (HQ5.out.keep hb7)
    have HV7 := Lib.hid (HV5.out.keep hb7)
    have HR7 := Lib.hid (hrc.keep hal)
    have HX7 := Lib.hid (hb_new w6 #[.int .i64 (n : Int), .slice I L.length ic, .slice H L.length hc] 40)
    obtain ⟨hok, hLm⟩ := scn_oks (fun _ _ h => gi_ok h) hsc
    have HOK := Lib.hid hok
    have HLM := Lib.hid hLm
    have HBF := Lib.hid (HB4.out.trans (HB7.out.mono HB4.out.size))
    clear hal hb hb7 hrc hsc y0 y1 y2 y3 y4 y5 y6 y7 y8 yl HX5 HQ5 HV5 HV4 HRS HSC hok hLm
    have hx9 := HX4.out.keep HB7.out
    have HX9 := Lib.hid hx9
    have x0 := hx9.cell 0
    have xl := hx9.lt
    clear hx9 HX4
    go_wp2
    clear x0 xl
    generalize w6.alloc (.cells #[.int .i64 (n : Int), .slice I L.length ic, .slice H L.length hc] 40) = w7 at *
    generalize w6.heap.size = cb at *
    clear w6
    have hmL := HLM.out
    subst hmL
    have HSM := Lib.hid (fun w' (hb : Below w7.heap.size w7 w') => csame_yes fw_may (HQ7.out.keep hb) rfl HOK.out (by omega) (by omega) (HR7.out.keep hb) (ic := ic) (hc := hc))
    go_loopw [47] (fun q' wr => ∃ t : Nat, t ≤ n ∧ q' = .int .i64 (t : Int) ∧ Below w7.heap.size w7 wr) (fun q' _ => n - (intOf q').toNat)
    case atStart => exact ⟨0, Nat.zero_le _, rfl, Below.refl _ _⟩
    case round =>
      obtain ⟨t, ht, rfl, hb⟩ := hrel
      have HB := Lib.hid hb
      by_cases hlt : t < n
      · have hti : (t : Int) < (n : Int) := by omega
        have HCB := Lib.hid (cblocks_any (HQ7.out.keep hb))
        clear hb
        go_wp2_with fail
        refine HCB.out.mono ?_
        rintro e w8 ⟨p8, q8, C8, rfl, _, hq8, hm8, hb⟩
        have HB8 := Lib.hid hb
        have HP8 := Lib.hid ((Bm.put1_any hm8 (t : Int) (by omega) (by omega) 1).mono fun e w' h => show (∃ v : Int, e = .returned (.int .i64 v)) ∧ Bm.Chg q8 w8 w' from ⟨⟨_, h.1⟩, h.2.2⟩)
        have HQ8 := Lib.hid hq8
        clear hb hm8 hq8 HCB
        go_wp2_with fail
        refine HP8.out.mono ?_
        rintro e w9 ⟨⟨v9, rfl⟩, hC⟩
        have HB9 := Lib.hid (HB.out.trans ((HB8.out.trans (hC.below HB8.out.size HQ8.out)).mono HB.out.size))
        have HSK := Lib.hid (cslots_any (HQ7.out.keep HB9.out))
        clear hC HP8
        go_wp2_with fail
        refine HSK.out.mono ?_
        rintro e w10 ⟨p10, q10, C10, rfl, _, hq10, hm10, hb⟩
        have HB10 := Lib.hid hb
        have HP10 := Lib.hid ((Bm.drop1_any hm10 (t : Int) (by omega) (by omega) 1).mono fun e w' h => show (∃ v : Int, e = .returned (.int .i64 v)) ∧ Bm.Chg q10 w10 w' from ⟨⟨_, h.1⟩, h.2.2⟩)
        have HQ10 := Lib.hid hq10
        clear hb hm10 hq10 HSK
        go_wp2_with fail
        refine HP10.out.mono ?_
        rintro e w11 ⟨⟨v11, rfl⟩, hC⟩
        have HB11 := Lib.hid (HB9.out.trans ((HB10.out.trans (hC.below HB10.out.size HQ10.out)).mono HB9.out.size))
        clear hC HP10
        go_wp2
        exact ⟨⟨t + 1, by omega, by go_num, HB11.out⟩, by simp [intOf]; omega⟩
      · obtain rfl : t = n := by omega
        have HUS := Lib.hid (used_any (HQ7.out.keep hb) rfl HOK.out.zero)
        clear hb
        go_wp2_with fail
        refine HUS.out.mono ?_
        rintro e w8 ⟨G, gc', rfl, hng, hb⟩
        have HB8 := Lib.hid (HB.out.trans (hb.mono HB.out.size))
        have HG8 := Lib.hid hng
        have HUL := Lib.hid (ut_len L L.length)
        have hul := HUL.out
        clear hng hb HUS
        go_wp2
        go_loopw [64] (fun q' wq => ∃ j : Nat, j ≤ (ut L L.length).length ∧ q' = .int .i64 (j : Int) ∧ Below w8.heap.size w8 wq) (fun q' _ => (ut L L.length).length - (intOf q').toNat)
        case atStart => exact ⟨0, Nat.zero_le _, rfl, Below.refl _ _⟩
        case round =>
          obtain ⟨j, hj, rfl, hbq⟩ := hrel
          have HBQ := Lib.hid (HB8.out.trans (hbq.mono HB8.out.size))
          have HBZ := Lib.hid hbq
          by_cases hlj : j < (ut L L.length).length
          · obtain ⟨bg, og, hG, hbg, c0⟩ := (HG8.out.keep hbq).at' j (by rw [List.length_map]; exact hlj)
            subst hG
            rw [List.getElem_map] at c0
            have hui := ut_lt _ (List.getElem_mem hlj)
            generalize (ut L L.length)[j] = i at *
            have c0 : wr.cell? ⟨bg, og + j, none⟩ = some (.int .i64 (i : Int)) := c0
            have hck := HOK.out.each _ (List.getElem_mem hui)
            have hfw := hck.few
            have HCH := Lib.hid (chain_yes (HQ7.out.keep HBQ.out) rfl i hui (by omega))
            have HSN := Lib.hid (fun k (hk : k < L[i].l.length) => (Chn.path_mem (Chn.rd_iff.1 hck.rd).1 _ (List.getElem_mem hk)))
            generalize L[i].l = l at *
            have hji : (j : Int) < ((ut L L.length).length : Int) := by omega
            clear hck hbq
            go_wp2_with fail
            refine HCH.out.mono ?_
            rintro e w9 ⟨A8, a8, D8, d8, rfl, ho, hp, hb⟩
            have hal := (Below.refl w9.heap.size w9).alloc (Nat.le_refl _) (.cells #[.slice A8 l.length a8, .slice D8 l.length d8] 63)
            have HB10 := Lib.hid (hb.trans (hal.mono hb.size))
            have HX10 := Lib.hid (hb_new w9 #[.slice A8 l.length a8, .slice D8 l.length d8] 63)
            have HRW := Lib.hid (rws_new ho hp hal)
            have HXB := Lib.hid (show wr.heap.size ≤ w9.heap.size from hb.size)
            clear hb hal ho hp HCH
            go_wp2
            generalize w9.alloc (.cells #[.slice A8 l.length a8, .slice D8 l.length d8] 63) = w10 at *
            generalize w9.heap.size = xb at *
            go_loopw [74] (fun q2 wq => ∃ k : Nat, k ≤ l.length ∧ q2 = .int .i64 (k : Int) ∧ Hb wq xb #[.slice A8 l.length a8, .slice D8 l.length d8] 63 ∧ Rws wr.heap.size k A8 D8 l wq ∧ Below wr.heap.size wr wq) (fun q2 _ => l.length - (intOf q2).toNat)
            case atStart => exact ⟨0, Nat.zero_le _, rfl, HX10.out, HRW.out, HB10.out⟩
            case round =>
              obtain ⟨k, hk, rfl, hx, hrw, hb⟩ := hrel
              by_cases hlk : k < l.length
              · obtain ⟨gA, gD, ca, cd, rfl, rfl, hgA, hgD, hA, hD, hca, hcd⟩ := hrw hlk
                obtain ⟨hs1, _, hs2⟩ := HSN.out k hlk
                have HCA := Lib.hid hca
                have HCD := Lib.hid hcd
                have HAA := Lib.hid hA
                have HDD := Lib.hid hD
                have HXX := Lib.hid hx
                have HBB := Lib.hid hb
                have HGG := Lib.hid (And.intro hgA hgD)
                have a0 := (hA.cell k).trans (hca k (Nat.le_refl _) hlk)
                have d0 := (hD.cell (k * 3)).trans (hcd k (Nat.le_refl _) hlk)
                have x0 := hx.cell 0
                have x1 := hx.cell 1
                have xl := hx.lt
                have al := hA.lt
                have dl := hD.lt
                have af := hA.frozen k
                have df := hD.frozen (k * 3)
                have n1 : ¬ gA = gD := Pm.blk_ne hA hD (by decide)
                have n2 : ¬ gD = gA := fun e => n1 e.symm
                have n3 : ¬ gA = xb := Pm.blk_ne hA hx (by decide)
                have n4 : ¬ xb = gA := fun e => n3 e.symm
                have n5 : ¬ gD = xb := Pm.blk_ne hD hx (by decide)
                have n6 : ¬ xb = gD := fun e => n5 e.symm
                have HNE := Lib.hid (And.intro n1 (And.intro n4 n6))
                have hki : (k : Int) < (l.length : Int) := by omega
                clear hca hcd hA hD hx hb hgA hgD hrw
                generalize l[k].s = sx at *
                generalize l[k].x = sy at *
                go_wp2
                refine ⟨⟨k + 1, by omega, by go_num, (HXX.out.far (p := ⟨gA, k, none⟩) HNE.out.2.1 _).far (p := ⟨gD, k * 3, none⟩) HNE.out.2.2 _, fun _ => ⟨gA, gD, _, _, rfl, rfl, HGG.out.1, HGG.out.2, (HAA.out.set k _).far (p := ⟨gD, k * 3, none⟩) HNE.out.1 _, (HDD.out.far (p := ⟨gA, k, none⟩) (fun e => HNE.out.1 e.symm) _).set (k * 3) _, fun i hi h => ?_, fun i hi h => ?_⟩, (HBB.out.setCell (p := ⟨gA, k, none⟩) HGG.out.1 _).setCell (p := ⟨gD, k * 3, none⟩) HGG.out.2 _⟩, by simp [intOf]; omega⟩
                · rw [Array.getElem?_setIfInBounds_ne (by omega)]
                  exact HCA.out i (by omega) h
                · rw [Array.getElem?_setIfInBounds_ne (by omega)]
                  exact HCD.out i (by omega) h
              · obtain rfl : k = l.length := by omega
                have HB11 := Lib.hid (HBZ.out.trans (hb.mono HBZ.out.size))
                clear hb hx hrw
                go_wp2
                exact ⟨⟨j + 1, by omega, by go_num, HB11.out⟩, by simp [intOf]; omega⟩
          · obtain rfl : j = (ut L L.length).length := by omega
            have hx := HX7.out.keep HBQ.out
            have x0 := hx.cell 0
            have x1 := hx.cell 1
            have x2 := hx.cell 2
            have xl := hx.lt
            clear hx
            have HS7 := Lib.hid (HSM.out wr HBQ.out)
            go_wp2_with fail
            refine HS7.out.mono ?_
            rintro e w9 ⟨rfl, hb⟩
            have HBE := Lib.hid (HBF.out.trans ((HBQ.out.trans (hb.mono HBQ.out.size)).mono HBF.out.size))
            clear hb
            go_wp2
            go_ret
            exact ⟨rfl, HBE.out⟩
end
end Clm
end Go.Proofs.YtilolepbfmcbgaaGreatDoor
