/- Texts laid together: TrkPlays, CrcArgs, TrkArgs, TrkActArgs, PatCard. -/
import Derived.Test.YtkhkcfbacnkcnaaGreatDoorPl7
import Derived.Test.YtkhkcfbacnkcnaaGreatDoorPl2
import Derived.Test.YtkhkcfbacnkcnaaGreatDoorPl1
import Derived.Deep.Slices
import Derived.OpenShut
import Derived.ChangeOld
import Derived.Test.YtkhkcfbacnkcnaaGreatDoorPl6
import Derived.Test.YtkhkcfbacnkcnaaGreatDoorTie
import Derived.Test.YtkhkcfbacnkcnaaGreatDoorCards
import Derived.ProofKit
import Derived.Lay
import Derived.LaidMore
import Derived.LaidOnce
import Derived.Stop.Joined
import Derived.ChangeMaps5
import Derived.Test.YtkhkcfbacnkcnaaGreatDoorPl3
import Derived.Test.YtkhkcfbacnkcnaaGreatDoorPl4
import Derived.Test.YtkhkcfbacnkcnaaGreatDoorPl5
/- Law 13's TreePlays. -/
namespace Go.Proofs.YtkhkcfbacnkcnaaGreatDoor
open Go.RowKit Go.MapKept
namespace Trk
open Tre (Nm Th It Its Tg Ths ths tv TrR Apart Ac Acs FewA fewA doT DoR Fr)
open Pat (Txs)

theorem own_keepT {w w' : World} {B n s : Nat} {t : TypeId} {v : Value} {xs : List Value} (h : w.ownsRow B t s v n xs) (hb : Below w.heap.size w w') : w'.ownsRow B t s v n xs := own_chg h (Chg.of_below (F := fun _ => False) hb) (fun _ _ h => h)

set_option maxRecDepth 100000 in
set_option maxHeartbeats 4000000 in
theorem plays_law (w : World) (A0 : Option Addr) (n c0 : Nat) (acs : List Ac) (hI : Acs w A0 acs) (hn : acs.length = n) :
    Calls Tryz.prog 3 #[.slice A0 n c0] w fun e w' => e = .returned (.bool true) ∧ Below w.heap.size w w' := by
  have HI := Lib.hid hI
  have HN := Lib.hid hn
  have HL := Lib.hid (lives_any w)
  clear hI hn
  go_enter Tryz.func3, Tryz.ntmps3
  go_wp2_with fail
  refine HL.out.mono ?_
  rintro e w1 ⟨rfl, hb1⟩
  have HB1 := Lib.hid hb1
  have hfw := Tre.few_any w1 A0 c0 acs (HI.out.keep hb1)
  rw [HN.out] at hfw
  have HFW := Lib.hid hfw
  clear hb1 hfw
  go_wp2_with fail
  refine HFW.out.mono ?_
  rintro e w2 ⟨rfl, hb2⟩
  have HB2 := Lib.hid (HB1.out.trans (hb2.mono HB1.out.size))
  clear hb2
  by_cases hf : FewA acs
  · rw [show fewA acs = true from decide_eq_true hf]
    have HFA := Lib.hid hf
    have HN4 := Lib.hid (show n ≤ 40 by rw [← HN.out]; exact hf.2)
    clear hf
    go_wp2_with fail
    refine (new_any w2).mono ?_
    rintro e w3 ⟨rfl, hm, hb3, hs3⟩
    have HBO := Lib.hid (both_new HB2.out hm hb3 hs3 29)
    clear hm hb3 hs3
    obtain ⟨bt, hbt⟩ : ∃ bt, bt = w2.heap.size := ⟨_, rfl⟩
    obtain ⟨bw, hbw⟩ : ∃ bw, bw = w3.heap.size := ⟨_, rfl⟩
    rw [← hbt, ← hbw] at HBO
    go_wp2_with fail
    rw [← hbt, ← hbw]
    clear hbt hbw
    go_loopw [33] (fun ix wr => ∃ (j : Nat) (t : List Th) (L : Nm → Nd) (A' : Option Addr) (c' : Nat) (l : List Tg), j ≤ n ∧ ix = .int .i64 (j : Int) ∧ t.length ≤ j ∧ Both w wr j bt bw t L A' c' l) (fun ix _ => n - (intOf ix).toNat)
    case atStart => exact ⟨0, [], _, none, 0, [], Nat.zero_le _, rfl, Nat.le_refl _, HBO.out⟩
    case round =>
      obtain ⟨j, t, L, A', c', l, hj, rfl, htl, hbo⟩ := hrel
      have HBR := Lib.hid hbo
      have HTL := Lib.hid htl
      clear hbo htl HBO
      by_cases hlt : j < n
      · have hlti : j < acs.length := by rw [HN.out]; exact hlt
        obtain ⟨bi, oi, rfl, hbli, k0, k1, k2, k3, k4⟩ := (HI.out.keep HBR.out.below).at' j hlti
        have hok := HI.out.ok _ (List.getElem_mem hlti)
        have hlit := HFA.out.1 _ (List.getElem_mem hlti)
        generalize acs[j] = q at *
        obtain ⟨k, p, x, nn, ga, gc, bs⟩ := q
        simp only at k0 k1 k2 k3 k4
        obtain ⟨m, hm⟩ : ∃ m, m = bs.length := ⟨_, rfl⟩
        rw [← hm] at k4
        have HM := Lib.hid hm
        have HOK := Lib.hid hok
        have HLIT := Lib.hid (show p.size ≤ 300 ∧ m ≤ 500 from ⟨hlit.1, by rw [hm]; exact hlit.2.1⟩)
        have hj0 : (j : Int) < (n : Int) := by omega
        have hm0 : (0 : Int) ≤ (j : Int) := by omega
        clear hm hok hlit hlti
        obtain ⟨b1, hb1⟩ : ∃ b1, b1 = wr.heap.size := ⟨_, rfl⟩
        obtain ⟨b2, hb2⟩ : ∃ b2, b2 = wr.heap.size + 1 := ⟨_, rfl⟩
        have hx1 := (Below.refl wr.heap.size wr).alloc (Nat.le_refl _) (.cells #[.int .u8 (k : Int), .string p, .int .i64 x, .int .i64 nn, .slice ga m gc] 32)
        have hx2 := (Below.refl (wr.alloc (.cells #[.int .u8 (k : Int), .string p, .int .i64 x, .int .i64 nn, .slice ga m gc] 32)).heap.size (wr.alloc (.cells #[.int .u8 (k : Int), .string p, .int .i64 x, .int .i64 nn, .slice ga m gc] 32))).alloc (Nat.le_refl _) (.cells #[.int .u8 (k : Int), .string p, .int .i64 x, .int .i64 nn, .slice ga m gc] 32)
        have HA3 := Lib.hid ((abx_new wr k p x nn ga m gc 32).keep hx2)
        have HBO3 := Lib.hid ((HBR.out.keep hx1).keep hx2)
        have HO3 := Lib.hid (show Abx _ b2 k p x nn ga m gc from by
          have := abx_new (wr.alloc (.cells #[.int .u8 (k : Int), .string p, .int .i64 x, .int .i64 nn, .slice ga m gc] 32)) k p x nn ga m gc 32
          rw [show (wr.alloc (.cells #[.int .u8 (k : Int), .string p, .int .i64 x, .int .i64 nn, .slice ga m gc] 32)).heap.size = b2 by rw [hb2]; simp] at this
          exact this)
        have HS3 := Lib.hid (show ((wr.alloc (.cells #[.int .u8 (k : Int), .string p, .int .i64 x, .int .i64 nn, .slice ga m gc] 32)).alloc (.cells #[.int .u8 (k : Int), .string p, .int .i64 x, .int .i64 nn, .slice ga m gc] 32)).heap.size = b2 + 1 by rw [hb2]; simp)
        have HFP3 := Lib.hid (show (∀ i, Fp t L i → i < b1) ∧ bw < b1 ∧ w.heap.size ≤ b1 ∧ (∀ i, b1 ≤ i → Apart i A' l) from ⟨fun i hi => by rw [hb1]; exact HBR.out.mem.lt hi, by rw [hb1]; exact HBR.out.ds.lt, by rw [hb1]; exact HBR.out.below.size, fun i hi => HBR.out.ds.row.apart (by rw [← hb1]; exact hi)⟩)
        have HB12 := Lib.hid (show b2 = b1 + 1 by rw [hb1, hb2])
        rw [← hb1] at HA3
        clear hx1 hx2
        go_upto_region 9 with fail
        rw [← hb1, ← HB12.out]
        generalize (wr.alloc (.cells #[.int .u8 (k : Int), .string p, .int .i64 x, .int .i64 nn, .slice ga m gc] 32)).alloc (.cells #[.int .u8 (k : Int), .string p, .int .i64 x, .int .i64 nn, .slice ga m gc] 32) = w3 at *
        clear hb1 hb2 k0 k1 k2 k3 k4
        have hok := HOK.out
        simp only at hok
        obtain ⟨hk8, hps, hcap, hbts, hnil, hxx, hnn⟩ := hok
        have HBI := Lib.hid hbts
        have HXN := Lib.hid (And.intro hxx hnn)
        have hm5 := HLIT.out.2
        obtain ⟨G, gq, w4, hrun, hown, hbl⟩ := copy_own (W := w3) gc (hbts.keep HBO3.out.below) hnil (by have := HM.out; omega)
        rw [← HM.out] at hrun hown
        have HAP := Lib.hid hrun
        have HO4 := Lib.hid (HO3.out.keep hbl)
        have HA4 := Lib.hid (HA3.out.keep hbl)
        have HG5 := Lib.hid (Tre.own_set hown (show b2 < w3.heap.size by have := HS3.out; omega) 4 (.slice G m gq))
        have HA5 := Lib.hid (HA4.out.chg (chg_set w4 b2 4 (.slice G m gq)) (by have := HB12.out; omega))
        have HO5 := Lib.hid (HO4.out.put G m gq)
        have HBO5 := Lib.hid ((HBO3.out.keep hbl).offF (chg_set w4 b2 4 (.slice G m gq)) (fun i hi => by
          subst hi
          obtain ⟨f1, f2, f3, f4⟩ := HFP3.out
          have f5 := HB12.out
          exact ⟨fun hi => by have := f1 _ hi; omega, f4 _ (by omega), by omega, by omega⟩))
        have HS5 := Lib.hid (show w3.heap.size ≤ (w4.setCell ⟨b2, 4, none⟩ (.slice G m gq)).heap.size by have := hbl.size; simp [World.setCell]; omega)
        have hz0 := HA3.out.c4
        have hz1 := HA3.out.lt
        have hz4 := HO4.out.c4
        have hzf := HO4.out.fr
        have hzl := HO4.out.lt
        clear hrun hown hbl hbts hk8 hps hcap hnil hxx hnn
        go_upto_region 10 with (at_builtin; refine Pat.wpList_append_run rfl (.tmp 38) (.tmp 40) 30 rfl _ _ _ rfl rfl HAP.out ?_)
        generalize w4.setCell ⟨b2, 4, none⟩ (.slice G m gq) = w5 at *
        clear hz0 hz1 hz4 hzf hzl
        have HWF := Lib.hid (HBO5.out.wf.doT k p x nn (bs := bs) HBI.out.byt)
        have HLN := Lib.hid (Nat.le_trans (doT_len t k p x nn (Crc.str bs)) (Nat.succ_le_succ HTL.out))
        have hl100 : l.length ≤ 100000 := by have := both_len HBO5.out; have := HTL.out; have := HN4.out; omega
        have hdo := Tre.do_any w5 A' c' l.length k l p x nn ga bs m gc rfl HBO5.out.ds.row (by have := HLIT.out.1; omega) HBO5.out.ds.nil HBO5.out.ds.cap hl100 HM.out.symm (HBI.out.keep HBO5.out.below) (by omega) (fun g hg => by
          have h1 : g.2.2 ∈ t := by rw [← HBO5.out.ds.eq]; exact List.mem_map.2 ⟨g, hg, rfl⟩
          have := HBO5.out.wf.size _ h1
          omega)
        rw [HBO5.out.ds.eq] at hdo
        have HDO := Lib.hid hdo
        have HACT := Lib.hid (fun (W : World) (hm : Mem W j t L) (hB : Crc.Bts W G bs) (hg : ∀ i, Gb G i → ¬ Fp t L i) => act_any W j bt k t L p x nn m gq G bs hm HBO5.out.root HBO5.out.wf (by have := HLIT.out.1; omega) (by have := HN4.out; omega) HM.out.symm (by omega) hB (fun ad e _ hf => hg _ ⟨ad, e, rfl⟩ hf) HXN.out.1 HXN.out.2 (by have := HTL.out; have := HN4.out; omega))
        have HBYT := Lib.hid HBI.out.byt
        clear hdo hl100
        generalize doT t k p x nn (Crc.str bs) = r at *
        have hc0 := HA5.out.c0
        have hc1 := HA5.out.c1
        have hc2 := HA5.out.c2
        have hc3 := HA5.out.c3
        have hc4 := HA5.out.c4
        have hcw := HBO5.out.ds.cell
        generalize hll : l.length = q at *
        have HLL := Lib.hid hll
        clear hll
        go_wp2_with fail
        refine HDO.out.mono ?_
        rintro e w6 ⟨A2, c2, l2, G2, g2, rfl, ht2, hl2, hA2, hcc2, ⟨htx2, hfr2⟩, hb2, hap2⟩
        generalize hll2 : l2.length = q2 at *
        have hbo5 := HBO5.out
        have hmd := hbo5.doc (r := (r.1, r.2.1)) ht2 hl2 hA2 (by rw [hll2]; exact hcc2) hb2 hap2 (.cells #[.slice A2 l2.length c2] 29)
        rw [hll2] at hmd
        have HMD := Lib.hid hmd
        have HLL2 := Lib.hid hll2
        have hlw := Nat.lt_of_lt_of_le hbo5.ds.lt hb2.size
        have hcw6 : w6.cell? ⟨bw, 0, none⟩ = some (.slice A' q c') := (hb2.cell (p := ⟨bw, 0, none⟩) hbo5.ds.lt).trans hcw
        have hfw6 : w6.frozen? ⟨bw, 0, none⟩ = false := (hb2.frozen (p := ⟨bw, 0, none⟩) hbo5.ds.lt).trans hbo5.ds.fr
        have hz7 := (Below.refl (w6.setCell ⟨bw, 0, none⟩ (.slice A2 q2 c2)).heap.size (w6.setCell ⟨bw, 0, none⟩ (.slice A2 q2 c2))).alloc (Nat.le_refl _) (.cells #[.slice A2 q2 c2] 29)
        have hbw1 : bw < b1 := HFP3.out.2.1
        have hb12 := HB12.out
        have hs3 := HS3.out
        have HA7 := Lib.hid (((HA5.out.keep hb2).chg (chg_set w6 bw 0 (.slice A2 q2 c2)) (by omega)).keep hz7)
        have HO7 := Lib.hid (((HO5.out.keep hb2).chg (chg_set w6 bw 0 (.slice A2 q2 c2)) (by omega)).keep hz7)
        have HG7 := Lib.hid (own_keepT (own_chg (own_keepT HG5.out hb2) (chg_set w6 bw 0 (.slice A2 q2 c2)) (fun g hg => by have := Crc.row_base_lt HG5.out hg; omega)) hz7)
        have HTX7 := Lib.hid ((Tre.txs_put htx2 hcw6 (fun s e => by cases e) (.slice A2 q2 c2)).keep hz7)
        have HGB := Lib.hid (show ∀ i, Gb G i → w3.heap.size ≤ i ∧ i < w5.heap.size ∧ Apart i A2 l2 from fun i hi => by
          have h1 := gb_row HG5.out hi
          exact ⟨h1.1, h1.2, hap2 i h1.2 (HFP3.out.2.2.2 i (by omega))⟩)
        have HFR := Lib.hid (show ∀ a, G2 = some a → w3.heap.size ≤ a.block from fun a e => Nat.le_trans HS5.out (hfr2 a e))
        have hc10 := HA5.out.lt
        clear hmd hz7 hbo5 ht2 hl2 hA2 hcc2 htx2 hfr2 hb2 hap2 hll2 hb12 hs3 hc0 hc1 hc2 hc3 hc4 hcw
        go_upto_region 12 with fail
        generalize (w6.setCell ⟨bw, 0, none⟩ (.slice A2 q2 c2)).alloc (.cells #[.slice A2 q2 c2] 29) = w7 at *
        clear hlw hcw6 hfw6 hbw1 hc10
        have hc0 := HO7.out.c0
        have hc1 := HO7.out.c1
        have hc2 := HO7.out.c2
        have hc3 := HO7.out.c3
        have hc4 := HO7.out.c4
        go_wp2_with fail
        refine (HACT.out w7 HMD.out.mem (Crc.own_bts HG7.out HBYT.out (by have := HLIT.out.2; omega)) (fun i hi hf => by have h1 := (HGB.out i hi).1; have h2 := HFP3.out.1 i hf; have := HS3.out; have := HB12.out; omega)).mono ?_
        rintro e w8 ⟨G3, g3, rfl, htx3, htr⟩
        obtain ⟨L', hbo8, hfp8⟩ := HMD.out.act HWF.out htr
        have HBO8 := Lib.hid hbo8
        have hgb8 : ∀ i, Gb G i → ¬ Fp t L i := fun i hi hf => by have h1 := (HGB.out i hi).1; have h2 := HFP3.out.1 i hf; have := HS3.out; have := HB12.out; omega
        have HA8 := Lib.hid (HA7.out.chg htr.1 (fun hf => by have := HFP3.out.1 _ hf; omega))
        have HO8 := Lib.hid (HO7.out.chg htr.1 (fun hf => by have := HFP3.out.1 _ hf; have := HB12.out; omega))
        have HG8 := Lib.hid (own_chg HG7.out htr.1 (fun g hg hf => by have h1 := Crc.row_base_lt HG7.out hg; have h2 := HFP3.out.1 _ hf; have := HS3.out; have := HB12.out; omega))
        have HTX8 := Lib.hid (txs_chg HTX7.out htr.1 (fun a e _ hf => by have h1 := HFR.out a e; have h2 := HFP3.out.1 _ hf; have := HS3.out; have := HB12.out; omega))
        have HTM8 := Lib.hid htx3
        have HGF := Lib.hid (show ∀ i, Gb G i → ¬ Fp r.1 L' i ∧ Apart i A2 l2 ∧ i ≠ bw ∧ w.heap.size ≤ i from fun i hi => by
          obtain ⟨h1, h2, h3⟩ := HGB.out i hi
          have f1 := HFP3.out.2.1
          have f2 := HFP3.out.2.2.1
          have f3 := HB12.out
          have f4 := HS3.out
          refine ⟨fun hf => ?_, h3, by omega, by omega⟩
          rcases hfp8 i hf with h4 | h4
          · exact hgb8 i hi h4
          · have := HMD.out.size
            omega)
        clear hbo8 hfp8 hgb8 htr htx3 hc0 hc1 hc2 hc3 hc4
        generalize hnl : r.2.2.2.length = nl at *
        have HNL := Lib.hid hnl
        clear hnl
        have ho4 := HO8.out.c4
        go_wp2_with fail
        clear ho4
        go_loopw [62] (fun ix wx => ∃ (i : Nat) (bs' : List Nat), i ≤ m ∧ ix = .int .i64 (i : Int) ∧ Crc.Byt bs' ∧ bs'.length = m ∧ wx.ownsRow w3.heap.size 5 1 (.slice G m gq) m (Crc.u8s bs') ∧ Chg (Gb G) w8 wx ∧ Txs wx G3 r.2.2.2 ∧ Txs wx G2 r.2.2.2) (fun ix _ => m - (intOf ix).toNat)
        case atStart => exact ⟨0, bs, Nat.zero_le _, rfl, HBYT.out, HM.out.symm, HG8.out, Chg.refl _ _, HTM8.out, HTX8.out⟩
        case round =>
          obtain ⟨i, bs', hi, rfl, hby, hbl, hown, hch, htm, htx⟩ := hrel
          have HBY := Lib.hid hby
          have HBL := Lib.hid hbl
          have HOW := Lib.hid hown
          have HCH := Lib.hid hch
          have HTM := Lib.hid htm
          have HTX := Lib.hid htx
          have HOX := Lib.hid (HO8.out.chg hch (fun hf => by have := (HGB.out _ hf).1; have := HS3.out; omega))
          clear hby hbl hown hch htm htx HTM8 HTX8 HG8
          by_cases hlti : i < m
          · have hG : ∃ g, G = some ⟨g, 0, none⟩ := by
              rcases HOW.out.2 with ⟨e, h0⟩ | ⟨g, cap, cur, e, _⟩
              · omega
              · injection e with e
                exact ⟨g, e⟩
            obtain ⟨g, rfl⟩ := hG
            have hib : i < bs'.length := by rw [HBL.out]; exact hlti
            have hca := HOW.out.cellAt i (by omega)
            have hfa := HOW.out.frozenAt i
            have hxv : (Crc.u8s bs')[i]? = some (.int .u8 (bs'[i] : Int)) := by simp [Crc.u8s, List.getElem?_map, List.getElem?_eq_getElem hib]
            rw [hxv] at hca
            obtain ⟨y, hy, hw⟩ := u8_plus bs'[i] (HBY.out _ (List.getElem_mem hib))
            generalize bs'[i] = xx at *
            have hst := (HOW.out.stored i (.int .u8 (y : Int))).1
            rw [u8s_set] at hst
            have HST := Lib.hid hst
            have HCH2 := Lib.hid (HCH.out.trans (chg_set wr g i (.int .u8 (y : Int))) (fun k hk => .inl ⟨_, rfl, hk⟩))
            have HTM2 := Lib.hid (txs_off HTM.out hca (fun s e => by cases e) (.int .u8 (y : Int)))
            have HTX2 := Lib.hid (txs_off HTX.out hca (fun s e => by cases e) (.int .u8 (y : Int)))
            have HBY2 := Lib.hid (byt_set HBY.out i hy)
            have hgl := (gb_row HOW.out (i := g) ⟨_, rfl, rfl⟩).2
            have ho4 := HOX.out.c4
            have hi0 : (0 : Int) ≤ (i : Int) := by omega
            have hi1 : (i : Int) < (m : Int) := by omega
            clear hst hxv hib hy
            go_wp2
            exact ⟨⟨i + 1, bs'.set i y, by omega, by go_num, HBY2.out, by rw [List.length_set]; exact HBL.out, HST.out, HCH2.out, HTM2.out, HTX2.out⟩, by simp [intOf]; omega⟩
          · obtain rfl : i = m := by omega
            have HBO9 := Lib.hid (HBO8.out.offF HCH.out HGF.out)
            have HA9 := Lib.hid (HA8.out.chg HCH.out (fun hf => by have := (HGB.out _ hf).1; have := HS3.out; have := HB12.out; omega))
            have hq2 : q2 = r.1.length := by rw [← HLL2.out]; exact both_len HBO9.out
            have hl41 : r.1.length ≤ 41 := by have := HLN.out; have := HN4.out; omega
            obtain ⟨k1, hk1⟩ : ∃ k1 : Nat, k1 = r.1.length + 1 := ⟨_, rfl⟩
            have hwq : IntKind.i64.wrap ((q2 : Int) + 1) = (k1 : Int) := by rw [IntKind.wrap_i64]; omega
            have HCNT := Lib.hid (fun (W : World) (hb : Below wr.heap.size wr W) => show Calls Tryz.prog 15 #[.pointer (some ⟨bt, 0, none⟩)] W (fun e w' => e = .returned (.int .i64 (k1 : Int)) ∧ Below wr.heap.size wr w' ∧ w'.cell? ⟨bw, 0, none⟩ = some (.slice A2 q2 c2)) from
              (Count_any W (j + 1) bt r.1 L' (HBO9.out.keep hb).mem HBO9.out.root HBO9.out.wf (by omega)).mono (fun e w' h => by
                have hb2 := hb.trans (h.2.mono hb.size)
                have hcl := (HBO9.out.keep hb2).ds.cell
                rw [HLL2.out] at hcl
                exact ⟨by rw [h.1, hk1]; rfl, hb2, hcl⟩))
            have HALL := Lib.hid (fun (W : World) (hb : Below wr.heap.size wr W) => show Calls Tryz.prog 14 #[.pointer (some ⟨bt, 0, none⟩)] W (fun e w' => ∃ (A5 : Option Addr) (c5 : Nat) (its5 : List It), e = .returned (.slice A5 its5.length c5) ∧ w'.cell? ⟨bw, 0, none⟩ = some (.slice A2 q2 c2) ∧ Calls Tryz.prog 13 #[.slice A5 its5.length c5, tv A2 q2 c2] w' (fun e w6 => e = .returned (.bool true) ∧ w6.cell? ⟨bw, 0, none⟩ = some (.slice A2 q2 c2) ∧ Below wr.heap.size wr w6)) from
              (all_any W (j + 1) bt r.1 L' (HBO9.out.keep hb).mem HBO9.out.root HBO9.out.wf (by omega)).mono (fun e w' h => by
                obtain ⟨A5, c5, its5, rfl, hI5, ht5, _, hb5⟩ := h
                have hb2 := hb.trans (hb5.mono hb.size)
                have h5 := (HBO9.out.keep hb2).ds
                have hcl := h5.cell
                rw [HLL2.out] at hcl
                refine ⟨A5, c5, its5, rfl, hcl, ?_⟩
                refine (Tre.lawSame_yes w' A5 A2 c5 c2 q2 its5 l2 HLL2.out h5.row hI5 (by omega) (by rw [h5.eq]; exact tells_sm ht5)).mono (fun e w6 h6 => ?_)
                have hb6 := hb2.trans (h6.2.mono hb2.size)
                have hcl := (HBO9.out.keep hb6).ds.cell
                rw [HLL2.out] at hcl
                exact ⟨h6.1, hcl, hb6⟩))
            have HSA := Lib.hid ((Pat.same_self wr.drew G3 G2 g3 g2 nl r.2.2.2 HNL.out (HTM.out.keep (Tre.below_drew (Below.refl _ _))) (HTX.out.keep (Tre.below_drew (Below.refl _ _)))).mono (fun e w' h => show e = .returned (.bool true) ∧ Below wr.heap.size wr w' ∧ w'.cell? ⟨bw, 0, none⟩ = some (.slice A2 q2 c2) from by
              obtain ⟨h1, n1, h2⟩ := h
              have hb2 : Below wr.heap.size wr w' := by rw [h2]; exact Pat.below_drewN (Tre.below_drew (Below.refl _ _)) n1
              have hcl := (HBO9.out.keep hb2).ds.cell
              rw [HLL2.out] at hcl
              exact ⟨h1, hb2, hcl⟩))
            have hcl := HBO9.out.ds.cell
            rw [HLL2.out] at hcl
            have hbwl := HBO9.out.ds.lt
            generalize r.2.1 = z at *
            generalize r.2.2.1 = s at *
            clear hq2 hk1
            go_wp2_with fail
            go_region_held3 (fun W' => W'.cell? ⟨bw, 0, none⟩ = some (.slice A2 q2 c2)) (go_keep)
              (first
              | (go_at_call 12
                 with_reducible refine HSA.out.mono ?_
                 rintro e w10 ⟨rfl, hb10, hcl10⟩
                 have hall10 := HALL.out w10 hb10
                 clear hb10)
              | (go_at_call 14
                 with_reducible refine Calls.mono (by assumption) ?_
                 rintro e w11 ⟨A5, c5, its5, rfl, hcl11, hsm11⟩)
              | (go_at_call 13
                 with_reducible refine Calls.mono (by assumption) ?_
                 rintro e w12 ⟨rfl, hcl12, hb12⟩
                 have hcnt12 := HCNT.out w12 hb12
                 clear hb12)
              | (go_at_call 15
                 with_reducible refine Calls.mono (by assumption) ?_
                 rintro e w13 ⟨rfl, hb13, hcl13⟩
                 have HB13 := Lib.hid hb13
                 clear hb13))
            have HBO13 := Lib.hid (HBO9.out.keep HB13.out)
            have HA13 := Lib.hid (HA9.out.keep HB13.out)
            have hcp := HA13.out.c1
            have hcd := HBO13.out.ds.cell
            rw [HLL2.out] at hcd
            have hsz := size_any w13 (j + 1) bt r.1 L' p HBO13.out.mem HBO13.out.root HBO13.out.wf (by have := HLIT.out.1; omega)
            have HDZ := Lib.hid (fun (W : World) (hb : Below w13.heap.size w13 W) => show Calls Tryz.prog 17 #[tv A2 q2 c2, .string p] W (fun e w' => e = .returned (.tuple #[.int .i64 (Tre.sizeT r.1 p).1, .bool (Tre.sizeT r.1 p).2.1, .int .i64 (Tre.sizeT r.1 p).2.2]) ∧ Below W.heap.size W w') from by
              have h5 := (HBO13.out.keep hb).ds
              have := Tre.size_any W A2 c2 q2 l2 p HLL2.out h5.row (by have := HLIT.out.1; omega) (by have := HLL2.out; have h6 := congrArg List.length h5.eq; simp at h6; omega)
              rw [h5.eq] at this
              exact this)
            have HSZ := Lib.hid hsz
            clear hsz HALL HCNT HSA hcl hbwl HACT HDO
            generalize Tre.sizeT r.1 p = u at *
            go_wp2_with fail
            refine HSZ.out.mono ?_
            rintro e w14 ⟨rfl, hb14⟩
            have hcd14 := (HBO13.out.keep hb14).ds.cell
            rw [HLL2.out] at hcd14
            have hcp14 := (HA13.out.keep hb14).c1
            have HD14 := Lib.hid (HDZ.out w14 hb14)
            have HBO14 := Lib.hid (HBO13.out.keep hb14)
            clear hb14 hcd hcp
            go_wp2_with fail
            refine HD14.out.mono ?_
            rintro e w15 ⟨rfl, hb15⟩
            have HBO15 := Lib.hid (HBO14.out.keep hb15)
            clear hb15 hcd14 hcp14
            have hn4 := HN4.out
            go_wp2
            exact ⟨⟨j + 1, r.1, L', A2, c2, l2, by omega, by go_num, HLN.out, HBO15.out⟩, by simp [intOf]; omega⟩
      · have HBZ := Lib.hid HBR.out.below
        go_wp2
        go_ret
        exact ⟨rfl, HBZ.out⟩
  · rw [show fewA acs = false from decide_eq_false hf]
    go_wp2_with fail
    refine (lives_any w2).mono ?_
    rintro e w3 ⟨rfl, hb3⟩
    have HB3 := Lib.hid (HB2.out.trans (hb3.mono HB2.out.size))
    clear hb3
    go_wp2
    go_ret
    exact ⟨rfl, HB3.out⟩
end Trk
end Go.Proofs.YtkhkcfbacnkcnaaGreatDoor
/- The laws' arguments, as they are read, opened to lists. -/
namespace Go.Proofs.YtkhkcfbacnkcnaaGreatDoor
open Go.RowKit Go.MapKept Go.ChangeShapes Go.WideShapes Go.Deep
namespace Crc
section
variable {H : Type} {enc : TypeId × Value → H} {W : World} {fuel : Nat} {sp : Nat → Bool} {held : Bool}

theorem cells_u8 : Tryz.prog.cellsOf 5 = 1 := by kernel_rfl
theorem cells_u64 : Tryz.prog.cellsOf 187 = 1 := by kernel_rfl
theorem cells_sl : Tryz.prog.cellsOf 30 = 1 := by kernel_rfl

theorem u8_bounds {k : Int} (h : (Lit.int .u8 k).wf = true) : 0 ≤ k ∧ k < 256 := by
  have := bounds_u8 h
  omega
theorem u64_bounds {k : Int} (h : (Lit.int .u64 k).wf = true) : 0 ≤ k ∧ k < 18446744073709551616 := by
  have := bounds_u64 h
  omega

theorem cell_lt {b o : Nat} {v : Value} (h : W.cell? ⟨b, o, none⟩ = some v) : b < W.heap.size := by
  rcases Nat.lt_or_ge b W.heap.size with h1 | h1
  · exact h1
  · simp [World.cell?, Array.getElem?_eq_none h1] at h

/-- a slice whose elements take one cell each -/
theorem open_ones {t e : TypeId} {v : Value} {x : DataW H × List MemPlace} {α : Type} (d : α) (R : α → Value → Prop) (ht : Tryz.prog.underlying t = some (.slice e)) (h1 : Tryz.prog.cellsOf e = 1)
    (hR : ∀ n u y, DataW.trod enc Tryz.prog W 0 sp held n e [u] = some y → ∃ a, R a u)
    (h : DataW.trod enc Tryz.prog W 0 sp held fuel t [v] = some x) :
    ∃ (A : Option Addr) (l : List α) (c : Nat), v = .slice A l.length c ∧ l.length ≤ c ∧ l.length ≤ 9223372036854775807 ∧ ∀ j (hj : j < l.length), ∃ b o u, A = some ⟨b, o, none⟩ ∧ b < W.heap.size ∧ W.cell? ⟨b, o + j, none⟩ = some u ∧ R l[j] u := by
  rcases open_slice1 ht h1 h with ⟨hcs, _⟩ | ⟨a, len, cap, m, n, V, D, Pl, hcs, _, hl, hm, hmm, _, hi⟩
  · simp at hcs
    exact ⟨none, [], 0, hcs, by simp, by simp, fun j hj => absurd hj (by simp)⟩
  · simp at hcs
    have hlen : len ≤ 9223372036854775807 := by unfold maxLen at hm; omega
    have hjm : ∀ i, i < len → i < m := fun i hi => by rw [hmm]; split <;> omega
    have one : ∀ i, ∃ a' : α, i < len → R a' (V i) := fun i => by
      by_cases hil : i < len
      · obtain ⟨a', ha⟩ := hR _ _ _ (hi i (hjm i hil)).2
        exact ⟨a', fun _ => ha⟩
      · exact ⟨d, fun h => absurd h hil⟩
    obtain ⟨f, hf⟩ := Classical.skolem.1 one
    refine ⟨some a, (List.range len).map f, cap, by rw [List.length_map, List.length_range]; exact hcs, by rw [List.length_map, List.length_range]; exact hl, by rw [List.length_map, List.length_range]; exact hlen, fun j hj => ?_⟩
    rw [List.length_map, List.length_range] at hj
    have hc0 := (hi 0 (hjm 0 (by omega))).1
    obtain ⟨b, o, spot⟩ := a
    have hspot : spot = none := by simpa [Addr.add] using World.cell?_spot hc0
    subst hspot
    have hc := (hi j (hjm j hj)).1
    rw [add_plain] at hc
    refine ⟨b, o, V j, rfl, cell_lt hc, hc, ?_⟩
    rw [List.getElem_map, List.getElem_range]
    exact hf j hj

theorem open_bytes {v : Value} {x : DataW H × List MemPlace} (h : DataW.trod enc Tryz.prog W 0 sp held fuel 30 [v] = some x) : ∃ A l c, v = .slice A l.length c ∧ l.length ≤ c ∧ Bts W A l := by
  obtain ⟨A, l, c, e, hc, hl, ha⟩ := open_ones (α := Nat) 0 (fun k u => u = .int .u8 (k : Int) ∧ k < 256) Tryz.underlying30 cells_u8 (fun n u y hu => by
    obtain ⟨k, e, _, hw⟩ := DataW.trod_int Tryz.underlying5 hu
    simp at e
    have hb := u8_bounds hw
    obtain ⟨q, rfl⟩ := Int.eq_ofNat_of_zero_le hb.1
    exact ⟨q, e, by omega⟩) h
  refine ⟨A, l, c, e, hc, fun b hb => ?_, hl, fun j hj => ?_⟩
  · obtain ⟨j, hj, rfl⟩ := List.getElem_of_mem hb
    obtain ⟨_, _, _, _, _, _, _, h2⟩ := ha j hj
    exact h2
  · obtain ⟨b, o, u, e, h1, h2, rfl, _⟩ := ha j hj
    exact ⟨b, o, e, h1, h2⟩

theorem open_parts {v : Value} {x : DataW H × List MemPlace} (h : DataW.trod enc Tryz.prog W 0 sp held fuel 165 [v] = some x) : ∃ A ps c, v = .slice A ps.length c ∧ Pts W A ps := by
  obtain ⟨A, ps, c, e, hc, hl, ha⟩ := open_ones (α := Prt) ⟨none, 0, []⟩ (fun q u => u = .slice q.a q.l.length q.c ∧ Bts W q.a q.l) Tryz.underlying165 cells_sl (fun n u y hu => by
    obtain ⟨B, l, c, e, _, hb⟩ := open_bytes hu
    exact ⟨⟨B, c, l⟩, e, hb⟩) h
  refine ⟨A, ps, c, e, hl, fun j hj => ?_, fun j hj => ?_⟩
  · obtain ⟨b, o, u, e, h1, h2, rfl, _⟩ := ha j hj
    exact ⟨b, o, e, h1, h2⟩
  · obtain ⟨_, _, _, _, _, _, _, h2⟩ := ha j hj
    exact h2
end
end Crc

theorem laidOut_try : laidOutB Tryz.prog = true := by kernel_rfl
theorem ownKnob_none : ownKnob Tryz.prog.godebug = none := by kernel_rfl
end Go.Proofs.YtkhkcfbacnkcnaaGreatDoor
/- The laws' arguments, as they are read, opened to cells: items. -/
namespace Go.Proofs.YtkhkcfbacnkcnaaGreatDoor
open Go.RowKit Go.MapKept Go.ChangeShapes Go.WideShapes Go.ChangeAt Go.Deep
namespace Trk
open Tre (It Its)
section
variable {H : Type} {enc : TypeId × Value → H} {W : World} {fuel : Nat} {sp : Nat → Bool} {held : Bool}
theorem open_bytes0 {v : Value} {x : DataW H × List MemPlace} (h : DataW.trod enc Tryz.prog W 0 sp held fuel 30 [v] = some x) : ∃ A l c, v = .slice A l.length c ∧ l.length ≤ c ∧ Crc.Bts W A l ∧ (A = none → c = 0) := by
  obtain ⟨A, l, c, e, hc, hb⟩ := Crc.open_bytes h
  refine ⟨A, l, c, e, hc, hb, ?_⟩
  rintro rfl
  subst e
  rcases Go.Deep.open_slice1 Tryz.underlying30 (by kernel_rfl) h with ⟨hcs, _⟩ | ⟨a, len, cap, m, n, V, D, Pl, hcs, _⟩
  · simp at hcs
    omega
  · simp at hcs
theorem cells_item : Tryz.prog.cellsOf 51 = 3 := by kernel_rfl
set_option maxRecDepth 100000 in
/-- an item's three cells -/
theorem open_item {cs : List Value} {x : DataW H × List MemPlace} (h : DataW.trod enc Tryz.prog W 0 sp held fuel 51 cs = some x) :
    ∃ g : It, cs = [.string g.p, .bool g.d, .slice g.a g.b.length g.c] ∧ g.p.size ≤ 9223372036854775807 ∧ g.b.length ≤ g.c ∧ Crc.Bts W g.a g.b ∧ (g.a = none → g.c = 0) := by
  obtain ⟨ys, n, _, _, hlen, hyl, hf⟩ := DataW.trod_struct Tryz.underlying51 h
  rw [cells_item] at hlen
  match cs, hlen with
  | [c0, c1, c2], _ =>
    have g0 : DataW.trod enc Tryz.prog W 0 sp held n 9 [c0] = ys[0]? := hf 0 _ rfl
    have g1 : DataW.trod enc Tryz.prog W 0 sp held n 4 [c1] = ys[1]? := hf 1 _ rfl
    have g2 : DataW.trod enc Tryz.prog W 0 sp held n 30 [c2] = ys[2]? := hf 2 _ rfl
    have hy : ys.length = 3 := hyl
    rw [List.getElem?_eq_getElem (by omega)] at g0 g1 g2
    obtain ⟨s, e0, _, w0⟩ := DataW.trod_string Tryz.underlying9 g0
    obtain ⟨d, e1, _⟩ := DataW.trod_bool Tryz.underlying4 g1
    obtain ⟨A, l, c, e2, h1, h2, h3⟩ := open_bytes0 g2
    simp at e0 e1
    subst e0 e1 e2
    exact ⟨⟨s, d, A, c, l⟩, rfl, by unfold maxLen at w0; show s.size ≤ _; omega, h1, h2, h3⟩

set_option maxRecDepth 100000 in
theorem open_items {v : Value} {x : DataW H × List MemPlace} (h : DataW.trod enc Tryz.prog W 0 sp held fuel 41 [v] = some x) : ∃ A l c, v = .slice A l.length c ∧ Its W A l := by
  rcases Go.Deep.open_slice Tryz.underlying41 h with ⟨hcs, _⟩ | ⟨a, len, cap, m, n, D, Pl, hcs, _, hl, hm, hmm, hx, hi⟩
  · simp at hcs
    exact ⟨none, [], 0, hcs, by simp, fun f hf => by simp at hf, fun j hj => absurd hj (by simp)⟩
  · simp at hcs
    have hlen : len ≤ 9223372036854775807 := by unfold maxLen at hm; omega
    have hjm : ∀ i, i < len → i < m := fun i hi => by rw [hmm]; split <;> omega
    have one : ∀ i, ∃ g : It, i < len → ((W.cell? (a.add (i * 3)) = some (.string g.p) ∧ W.cell? ((a.add (i * 3)).add 1) = some (.bool g.d) ∧ W.cell? ((a.add (i * 3)).add 2) = some (.slice g.a g.b.length g.c)) ∧ (g.p.size ≤ 9223372036854775807 ∧ g.b.length ≤ g.c ∧ Crc.Bts W g.a g.b ∧ (g.a = none → g.c = 0))) := fun i => by
      by_cases hil : i < len
      · obtain ⟨cs', hc, ht⟩ := hi i (hjm i hil)
        rw [cells_item] at hc
        obtain ⟨f, rfl, h1⟩ := open_item ht
        obtain ⟨_, _, hat⟩ := World.cells?_some hc
        have g0 := hat 0 (by omega)
        have g1 := hat 1 (by omega)
        have g2 := hat 2 (by omega)
        simp only [List.getElem?_cons_zero, List.getElem?_cons_succ] at g0 g1 g2
        refine ⟨f, fun _ => ⟨⟨?_, g1, g2⟩, h1⟩⟩
        simpa [Addr.add] using g0
      · exact ⟨⟨⟨#[]⟩, false, none, 0, []⟩, fun h => absurd h hil⟩
    obtain ⟨f, hf⟩ := Classical.skolem.1 one
    have hget : ∀ j (hj : j < ((List.range len).map f).length), ((List.range len).map f)[j] = f j := fun j hj => by rw [List.getElem_map, List.getElem_range]
    refine ⟨some a, (List.range len).map f, cap, by rw [List.length_map, List.length_range]; exact hcs, by rw [List.length_map, List.length_range]; exact hlen, fun g hg => ?_, fun j hj => ?_⟩
    · obtain ⟨i, hi, rfl⟩ := List.mem_map.1 hg
      exact (hf i (List.mem_range.1 hi)).2
    · rw [hget j hj]
      rw [List.length_map, List.length_range] at hj
      have hc0 := (hf 0 (by omega)).1.1
      obtain ⟨b, o, spot⟩ := a
      have hspot : spot = none := by simpa [Addr.add] using World.cell?_spot hc0
      subst hspot
      obtain ⟨g0, g1, g2⟩ := (hf j hj).1
      simp only [Go.WideShapes.add_plain] at g0 g1 g2
      exact ⟨b, o, rfl, Crc.cell_lt g0, g0, g1, g2⟩
end
end Trk
end Go.Proofs.YtkhkcfbacnkcnaaGreatDoor
/- The laws' arguments, as they are read, opened to cells: acts. -/
namespace Go.Proofs.YtkhkcfbacnkcnaaGreatDoor
open Go.RowKit Go.MapKept Go.ChangeShapes Go.WideShapes Go.ChangeAt Go.Deep
namespace Trk
open Tre (Ac Acs)
section
variable {H : Type} {enc : TypeId × Value → H} {W : World} {fuel : Nat} {sp : Nat → Bool} {held : Bool}
theorem cells_act : Tryz.prog.cellsOf 32 = 5 := by kernel_rfl
def actOk (W : World) (g : Ac) : Prop := g.k < 256 ∧ g.p.size ≤ 9223372036854775807 ∧ g.b.length ≤ g.c ∧ Crc.Bts W g.a g.b ∧ (g.a = none → g.c = 0) ∧ g.x ≤ 9223372036854775807 ∧ g.n ≤ 9223372036854775807
set_option maxRecDepth 100000 in
/-- an act's five cells -/
theorem open_act {cs : List Value} {x : DataW H × List MemPlace} (h : DataW.trod enc Tryz.prog W 0 sp held fuel 32 cs = some x) :
    ∃ g : Ac, cs = [.int .u8 (g.k : Int), .string g.p, .int .i64 g.x, .int .i64 g.n, .slice g.a g.b.length g.c] ∧ actOk W g := by
  obtain ⟨ys, n, _, _, hlen, hyl, hf⟩ := DataW.trod_struct Tryz.underlying32 h
  rw [cells_act] at hlen
  match cs, hlen with
  | [c0, c1, c2, c3, c4], _ =>
    have g0 : DataW.trod enc Tryz.prog W 0 sp held n 5 [c0] = ys[0]? := hf 0 _ rfl
    have g1 : DataW.trod enc Tryz.prog W 0 sp held n 9 [c1] = ys[1]? := hf 1 _ rfl
    have g2 : DataW.trod enc Tryz.prog W 0 sp held n 3 [c2] = ys[2]? := hf 2 _ rfl
    have g3 : DataW.trod enc Tryz.prog W 0 sp held n 3 [c3] = ys[3]? := hf 3 _ rfl
    have g4 : DataW.trod enc Tryz.prog W 0 sp held n 30 [c4] = ys[4]? := hf 4 _ rfl
    have hy : ys.length = 5 := hyl
    rw [List.getElem?_eq_getElem (by omega)] at g0 g1 g2 g3 g4
    obtain ⟨k, e0, _, w0⟩ := DataW.trod_int Tryz.underlying5 g0
    obtain ⟨s, e1, _, w1⟩ := DataW.trod_string Tryz.underlying9 g1
    obtain ⟨a, e2, _, w2⟩ := DataW.trod_int Tryz.underlying3 g2
    obtain ⟨b, e3, _, w3⟩ := DataW.trod_int Tryz.underlying3 g3
    obtain ⟨A, l, c, e4, h1, h2, h3⟩ := open_bytes0 g4
    simp at e0 e1 e2 e3
    subst e0 e1 e2 e3 e4
    have b0 := bounds_u8 w0
    have b2 := bounds_i64 w2
    have b3 := bounds_i64 w3
    obtain ⟨q, rfl⟩ := Int.eq_ofNat_of_zero_le b0.1
    exact ⟨⟨q, s, a, b, A, c, l⟩, rfl, by show q < 256; omega, by unfold maxLen at w1; show s.size ≤ _; omega, h1, h2, h3, by show a ≤ _; omega, by show b ≤ _; omega⟩

set_option maxRecDepth 100000 in
theorem open_acts {v : Value} {x : DataW H × List MemPlace} (h : DataW.trod enc Tryz.prog W 0 sp held fuel 22 [v] = some x) : ∃ A l c, v = .slice A l.length c ∧ Acs W A l := by
  rcases Go.Deep.open_slice Tryz.underlying22 h with ⟨hcs, _⟩ | ⟨a, len, cap, m, n, D, Pl, hcs, _, hl, hm, hmm, hx, hi⟩
  · simp at hcs
    exact ⟨none, [], 0, hcs, by simp, fun f hf => by simp at hf, fun j hj => absurd hj (by simp)⟩
  · simp at hcs
    have hlen : len ≤ 9223372036854775807 := by unfold maxLen at hm; omega
    have hjm : ∀ i, i < len → i < m := fun i hi => by rw [hmm]; split <;> omega
    have one : ∀ i, ∃ g : Ac, i < len → ((W.cell? (a.add (i * 5)) = some (.int .u8 (g.k : Int)) ∧ W.cell? ((a.add (i * 5)).add 1) = some (.string g.p) ∧ W.cell? ((a.add (i * 5)).add 2) = some (.int .i64 g.x) ∧ W.cell? ((a.add (i * 5)).add 3) = some (.int .i64 g.n) ∧ W.cell? ((a.add (i * 5)).add 4) = some (.slice g.a g.b.length g.c)) ∧ actOk W g) := fun i => by
      by_cases hil : i < len
      · obtain ⟨cs', hc, ht⟩ := hi i (hjm i hil)
        rw [cells_act] at hc
        obtain ⟨f, rfl, h1⟩ := open_act ht
        obtain ⟨_, _, hat⟩ := World.cells?_some hc
        have g0 := hat 0 (by omega)
        have g1 := hat 1 (by omega)
        have g2 := hat 2 (by omega)
        have g3 := hat 3 (by omega)
        have g4 := hat 4 (by omega)
        simp only [List.getElem?_cons_zero, List.getElem?_cons_succ] at g0 g1 g2 g3 g4
        refine ⟨f, fun _ => ⟨⟨?_, g1, g2, g3, g4⟩, h1⟩⟩
        simpa [Addr.add] using g0
      · exact ⟨⟨0, ⟨#[]⟩, 0, 0, none, 0, []⟩, fun h => absurd h hil⟩
    obtain ⟨f, hf⟩ := Classical.skolem.1 one
    have hget : ∀ j (hj : j < ((List.range len).map f).length), ((List.range len).map f)[j] = f j := fun j hj => by rw [List.getElem_map, List.getElem_range]
    refine ⟨some a, (List.range len).map f, cap, by rw [List.length_map, List.length_range]; exact hcs, by rw [List.length_map, List.length_range]; exact hlen, fun g hg => ?_, fun j hj => ?_⟩
    · obtain ⟨i, hi, rfl⟩ := List.mem_map.1 hg
      exact (hf i (List.mem_range.1 hi)).2
    · rw [hget j hj]
      rw [List.length_map, List.length_range] at hj
      have hc0 := (hf 0 (by omega)).1.1
      obtain ⟨b, o, spot⟩ := a
      have hspot : spot = none := by simpa [Addr.add] using World.cell?_spot hc0
      subst hspot
      obtain ⟨g0, g1, g2, g3, g4⟩ := (hf j hj).1
      simp only [Go.WideShapes.add_plain] at g0 g1 g2 g3 g4
      exact ⟨b, o, rfl, Crc.cell_lt g0, g0, g1, g2, g3, g4⟩
end
end Trk
end Go.Proofs.YtkhkcfbacnkcnaaGreatDoor
/- A start that meets the rows' condition: the library's tables unicode/utf8.first and acceptRanges as they are laid; arguments that are names. -/
namespace Go.Proofs.YtkhkcfbacnkcnaaGreatDoor
open Go.RowKit Go.MapKept Go.ChangeShapes Go.WideShapes Go.ChangeAt Go.Deep

abbrev lst : List (String × DataW Unit) := [("unicode/utf8.acceptRanges", Rows.laid_unicode_utf8_acceptRanges), ("unicode/utf8.first", Rows.laid_unicode_utf8_first)]

/-- a start with both tables meets the condition -/
theorem door_met (os : Os) (args : Array Value) : laidMetH Tryz.prog lst ((World.laidAll Tryz.prog os lst).forCall (fun _ _ => 0) ⟨#[], args, []⟩).memory := by
  rw [MakeChecks.laidMetH_plain _ _ _ (by kernel_rfl)]
  exact laidMet_laidAll _ (by kernel_rfl) (by kernel_rfl)

namespace Pat
section
variable {H : Type} {enc : TypeId × Value → H} {W : World} {fuel : Nat} {sp : Nat → Bool} {held : Bool}
theorem open_strs {v : Value} {x : DataW H × List MemPlace} (h : DataW.trod enc Tryz.prog W 0 sp held fuel 33 [v] = some x) : ∃ A l c, v = .slice A l.length c ∧ Txs W A l ∧ l.length ≤ c ∧ (A = none → c = 0) := by
  obtain ⟨A, l, c, e, hc, hl, ha⟩ := Crc.open_ones (α := ByteArray) ByteArray.empty (fun s u => u = .string s ∧ s.size ≤ 9223372036854775807) Tryz.underlying33 (by kernel_rfl) (fun n u y hu => by
    obtain ⟨s, e, _, hw⟩ := DataW.trod_string Tryz.underlying9 hu
    simp at e
    exact ⟨s, e, by unfold maxLen at hw; omega⟩) h
  refine ⟨A, l, c, e, ⟨fun s hs => ?_, hl, fun j hj => ?_⟩, hc, ?_⟩
  · obtain ⟨j, hj, rfl⟩ := List.getElem_of_mem hs
    obtain ⟨_, _, _, _, _, _, _, h2⟩ := ha j hj
    exact h2
  · obtain ⟨b, o, u, e, h1, h2, rfl, _⟩ := ha j hj
    exact ⟨b, o, e, h1, h2⟩
  · rintro rfl
    subst e
    rcases Go.Deep.open_slice1 Tryz.underlying33 (by kernel_rfl) h with ⟨hcs, _⟩ | ⟨a, len, cap, m, n, V, D, Pl, hcs, _⟩
    · simp at hcs
      omega
    · simp at hcs
end
end Pat
end Go.Proofs.YtkhkcfbacnkcnaaGreatDoor
