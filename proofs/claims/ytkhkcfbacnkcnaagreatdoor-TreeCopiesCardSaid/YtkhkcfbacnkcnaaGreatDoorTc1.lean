/- Texts laid together: TrkPlays, TrkRef, TrkDuo, TrkCopies, TrkActArgs. -/
import Derived.Test.YtkhkcfbacnkcnaaGreatDoorMc7
import Derived.Test.YtkhkcfbacnkcnaaGreatDoorMc2
import Derived.Test.YtkhkcfbacnkcnaaGreatDoorMc9
import Derived.Test.YtkhkcfbacnkcnaaGreatDoorMc6
import Derived.Test.YtkhkcfbacnkcnaaGreatDoorMc1
import Derived.Test.YtkhkcfbacnkcnaaGreatDoorMc3
import Derived.Test.YtkhkcfbacnkcnaaGreatDoorMc4
import Derived.Test.YtkhkcfbacnkcnaaGreatDoorMc5
import Derived.Test.YtkhkcfbacnkcnaaGreatDoorMc8
/- Law 13's TreePlays. -/
namespace Go.Proofs.YtkhkcfbacnkcnaaGreatDoor
open Go.RowKit Go.MapKept
namespace Trk
open Tre (Nm Th It Its Tg Ths ths tv TrR Apart Ac Acs FewA fewA doT DoR Fr)
open Pat (Txs)

theorem own_keepT {w w' : World} {B n s : Nat} {t : TypeId} {v : Value} {xs : List Value} (h : w.ownsRow B t s v n xs) (hb : Below w.heap.size w w') : w'.ownsRow B t s v n xs := own_chg h (Chg.of_below (F := fun _ => False) hb) (fun _ _ h => h)

set_option maxRecDepth 100000 in
set_option maxHeartbeats 4000000 in
theorem plays_law (w : World) (A0 : Option Addr) (n c0 : Nat) (acs : List Ac) (hI : Acs w A0 acs) (hn : acs.length = n) :
    Calls Tryz.prog 3 #[.slice A0 n c0] w fun e w' => e = .returned (.bool true) ∧ Below w.heap.size w w' := by
  have HI := Lib.hid hI
  have HN := Lib.hid hn
  have HL := Lib.hid (lives_any w)
  clear hI hn
  go_enter Tryz.func3, Tryz.ntmps3
  go_wp2_with fail
  refine HL.out.mono ?_
  rintro e w1 ⟨rfl, hb1⟩
  have HB1 := Lib.hid hb1
  have hfw := Tre.few_any w1 A0 c0 acs (HI.out.keep hb1)
  rw [HN.out] at hfw
  have HFW := Lib.hid hfw
  clear hb1 hfw
  go_wp2_with fail
  refine HFW.out.mono ?_
  rintro e w2 ⟨rfl, hb2⟩
  have HB2 := Lib.hid (HB1.out.trans (hb2.mono HB1.out.size))
  clear hb2
  by_cases hf : FewA acs
  · rw [show fewA acs = true from decide_eq_true hf]
    have HFA := Lib.hid hf
    have HN4 := Lib.hid (show n ≤ 40 by rw [← HN.out]; exact hf.2)
    clear hf
    go_wp2_with fail
    refine (new_any w2).mono ?_
    rintro e w3 ⟨rfl, hm, hb3, hs3⟩
    have HBO := Lib.hid (both_new HB2.out hm hb3 hs3 29)
    clear hm hb3 hs3
    obtain ⟨bt, hbt⟩ : ∃ bt, bt = w2.heap.size := ⟨_, rfl⟩
    obtain ⟨bw, hbw⟩ : ∃ bw, bw = w3.heap.size := ⟨_, rfl⟩
    rw [← hbt, ← hbw] at HBO
    go_wp2_with fail
    rw [← hbt, ← hbw]
    clear hbt hbw
    go_loopw [33] (fun ix wr => ∃ (j : Nat) (t : List Th) (L : Nm → Nd) (A' : Option Addr) (c' : Nat) (l : List Tg), j ≤ n ∧ ix = .int .i64 (j : Int) ∧ t.length ≤ j ∧ Both w wr j bt bw t L A' c' l) (fun ix _ => n - (intOf ix).toNat)
    case atStart => exact ⟨0, [], _, none, 0, [], Nat.zero_le _, rfl, Nat.le_refl _, HBO.out⟩
    case round =>
      obtain ⟨j, t, L, A', c', l, hj, rfl, htl, hbo⟩ := hrel
      have HBR := Lib.hid hbo
      have HTL := Lib.hid htl
      clear hbo htl HBO
      by_cases hlt : j < n
      · have hlti : j < acs.length := by rw [HN.out]; exact hlt
        obtain ⟨bi, oi, rfl, hbli, k0, k1, k2, k3, k4⟩ := (HI.out.keep HBR.out.below).at' j hlti
        have hok := HI.out.ok _ (List.getElem_mem hlti)
        have hlit := HFA.out.1 _ (List.getElem_mem hlti)
        generalize acs[j] = q at *
        obtain ⟨k, p, x, nn, ga, gc, bs⟩ := q
        simp only at k0 k1 k2 k3 k4
        obtain ⟨m, hm⟩ : ∃ m, m = bs.length := ⟨_, rfl⟩
        rw [← hm] at k4
        have HM := Lib.hid hm
        have HOK := Lib.hid hok
        have HLIT := Lib.hid (show p.size ≤ 300 ∧ m ≤ 500 from ⟨hlit.1, by rw [hm]; exact hlit.2.1⟩)
        have hj0 : (j : Int) < (n : Int) := by omega
        have hm0 : (0 : Int) ≤ (j : Int) := by omega
        clear hm hok hlit hlti
        obtain ⟨b1, hb1⟩ : ∃ b1, b1 = wr.heap.size := ⟨_, rfl⟩
        obtain ⟨b2, hb2⟩ : ∃ b2, b2 = wr.heap.size + 1 := ⟨_, rfl⟩
        have hx1 := (Below.refl wr.heap.size wr).alloc (Nat.le_refl _) (.cells #[.int .u8 (k : Int), .string p, .int .i64 x, .int .i64 nn, .slice ga m gc] 32)
        have hx2 := (Below.refl (wr.alloc (.cells #[.int .u8 (k : Int), .string p, .int .i64 x, .int .i64 nn, .slice ga m gc] 32)).heap.size (wr.alloc (.cells #[.int .u8 (k : Int), .string p, .int .i64 x, .int .i64 nn, .slice ga m gc] 32))).alloc (Nat.le_refl _) (.cells #[.int .u8 (k : Int), .string p, .int .i64 x, .int .i64 nn, .slice ga m gc] 32)
        have HA3 := Lib.hid ((abx_new wr k p x nn ga m gc 32).keep hx2)
        have HBO3 := Lib.hid ((HBR.out.keep hx1).keep hx2)
        have HO3 := Lib.hid (show Abx _ b2 k p x nn ga m gc from by
          have := abx_new (wr.alloc (.cells #[.int .u8 (k : Int), .string p, .int .i64 x, .int .i64 nn, .slice ga m gc] 32)) k p x nn ga m gc 32
          rw [show (wr.alloc (.cells #[.int .u8 (k : Int), .string p, .int .i64 x, .int .i64 nn, .slice ga m gc] 32)).heap.size = b2 by rw [hb2]; simp] at this
          exact this)
        have HS3 := Lib.hid (show ((wr.alloc (.cells #[.int .u8 (k : Int), .string p, .int .i64 x, .int .i64 nn, .slice ga m gc] 32)).alloc (.cells #[.int .u8 (k : Int), .string p, .int .i64 x, .int .i64 nn, .slice ga m gc] 32)).heap.size = b2 + 1 by rw [hb2]; simp)
        have HFP3 := Lib.hid (show (∀ i, Fp t L i → i < b1) ∧ bw < b1 ∧ w.heap.size ≤ b1 ∧ (∀ i, b1 ≤ i → Apart i A' l) from ⟨fun i hi => by rw [hb1]; exact HBR.out.mem.lt hi, by rw [hb1]; exact HBR.out.ds.lt, by rw [hb1]; exact HBR.out.below.size, fun i hi => HBR.out.ds.row.apart (by rw [← hb1]; exact hi)⟩)
        have HB12 := Lib.hid (show b2 = b1 + 1 by rw [hb1, hb2])
        rw [← hb1] at HA3
        clear hx1 hx2
        go_upto_region 9 with fail
        rw [← hb1, ← HB12.out]
        generalize (wr.alloc (.cells #[.int .u8 (k : Int), .string p, .int .i64 x, .int .i64 nn, .slice ga m gc] 32)).alloc (.cells #[.int .u8 (k : Int), .string p, .int .i64 x, .int .i64 nn, .slice ga m gc] 32) = w3 at *
        clear hb1 hb2 k0 k1 k2 k3 k4
        have hok := HOK.out
        simp only at hok
        obtain ⟨hk8, hps, hcap, hbts, hnil, hxx, hnn⟩ := hok
        have HBI := Lib.hid hbts
        have HXN := Lib.hid (And.intro hxx hnn)
        have hm5 := HLIT.out.2
        obtain ⟨G, gq, w4, hrun, hown, hbl⟩ := copy_own (W := w3) gc (hbts.keep HBO3.out.below) hnil (by have := HM.out; omega)
        rw [← HM.out] at hrun hown
        have HAP := Lib.hid hrun
        have HO4 := Lib.hid (HO3.out.keep hbl)
        have HA4 := Lib.hid (HA3.out.keep hbl)
        have HG5 := Lib.hid (Tre.own_set hown (show b2 < w3.heap.size by have := HS3.out; omega) 4 (.slice G m gq))
        have HA5 := Lib.hid (HA4.out.chg (chg_set w4 b2 4 (.slice G m gq)) (by have := HB12.out; omega))
        have HO5 := Lib.hid (HO4.out.put G m gq)
        have HBO5 := Lib.hid ((HBO3.out.keep hbl).offF (chg_set w4 b2 4 (.slice G m gq)) (fun i hi => by
          subst hi
          obtain ⟨f1, f2, f3, f4⟩ := HFP3.out
          have f5 := HB12.out
          exact ⟨fun hi => by have := f1 _ hi; omega, f4 _ (by omega), by omega, by omega⟩))
        have HS5 := Lib.hid (show w3.heap.size ≤ (w4.setCell ⟨b2, 4, none⟩ (.slice G m gq)).heap.size by have := hbl.size; simp [World.setCell]; omega)
        have hz0 := HA3.out.c4
        have hz1 := HA3.out.lt
        have hz4 := HO4.out.c4
        have hzf := HO4.out.fr
        have hzl := HO4.out.lt
        clear hrun hown hbl hbts hk8 hps hcap hnil hxx hnn
        go_upto_region 10 with (at_builtin; refine Pat.wpList_append_run rfl (.tmp 38) (.tmp 40) 30 rfl _ _ _ rfl rfl HAP.out ?_)
        generalize w4.setCell ⟨b2, 4, none⟩ (.slice G m gq) = w5 at *
        clear hz0 hz1 hz4 hzf hzl
        have HWF := Lib.hid (HBO5.out.wf.doT k p x nn (bs := bs) HBI.out.byt)
        have HLN := Lib.hid (Nat.le_trans (doT_len t k p x nn (Crc.str bs)) (Nat.succ_le_succ HTL.out))
        have hl100 : l.length ≤ 100000 := by have := both_len HBO5.out; have := HTL.out; have := HN4.out; omega
        have hdo := Tre.do_any w5 A' c' l.length k l p x nn ga bs m gc rfl HBO5.out.ds.row (by have := HLIT.out.1; omega) HBO5.out.ds.nil HBO5.out.ds.cap hl100 HM.out.symm (HBI.out.keep HBO5.out.below) (by omega) (fun g hg => by
          have h1 : g.2.2 ∈ t := by rw [← HBO5.out.ds.eq]; exact List.mem_map.2 ⟨g, hg, rfl⟩
          have := HBO5.out.wf.size _ h1
          omega)
        rw [HBO5.out.ds.eq] at hdo
        have HDO := Lib.hid hdo
        have HACT := Lib.hid (fun (W : World) (hm : Mem W j t L) (hB : Crc.Bts W G bs) (hg : ∀ i, Gb G i → ¬ Fp t L i) => act_any W j bt k t L p x nn m gq G bs hm HBO5.out.root HBO5.out.wf (by have := HLIT.out.1; omega) (by have := HN4.out; omega) HM.out.symm (by omega) hB (fun ad e _ hf => hg _ ⟨ad, e, rfl⟩ hf) HXN.out.1 HXN.out.2 (by have := HTL.out; have := HN4.out; omega))
        have HBYT := Lib.hid HBI.out.byt
        clear hdo hl100
        generalize doT t k p x nn (Crc.str bs) = r at *
        have hc0 := HA5.out.c0
        have hc1 := HA5.out.c1
        have hc2 := HA5.out.c2
        have hc3 := HA5.out.c3
        have hc4 := HA5.out.c4
        have hcw := HBO5.out.ds.cell
        generalize hll : l.length = q at *
        have HLL := Lib.hid hll
        clear hll
        go_wp2_with fail
        refine HDO.out.mono ?_
        rintro e w6 ⟨A2, c2, l2, G2, g2, rfl, ht2, hl2, hA2, hcc2, ⟨htx2, hfr2⟩, hb2, hap2⟩
        generalize hll2 : l2.length = q2 at *
        have hbo5 := HBO5.out
        have hmd := hbo5.doc (r := (r.1, r.2.1)) ht2 hl2 hA2 (by rw [hll2]; exact hcc2) hb2 hap2 (.cells #[.slice A2 l2.length c2] 29)
        rw [hll2] at hmd
        have HMD := Lib.hid hmd
        have HLL2 := Lib.hid hll2
        have hlw := Nat.lt_of_lt_of_le hbo5.ds.lt hb2.size
        have hcw6 : w6.cell? ⟨bw, 0, none⟩ = some (.slice A' q c') := (hb2.cell (p := ⟨bw, 0, none⟩) hbo5.ds.lt).trans hcw
        have hfw6 : w6.frozen? ⟨bw, 0, none⟩ = false := (hb2.frozen (p := ⟨bw, 0, none⟩) hbo5.ds.lt).trans hbo5.ds.fr
        have hz7 := (Below.refl (w6.setCell ⟨bw, 0, none⟩ (.slice A2 q2 c2)).heap.size (w6.setCell ⟨bw, 0, none⟩ (.slice A2 q2 c2))).alloc (Nat.le_refl _) (.cells #[.slice A2 q2 c2] 29)
        have hbw1 : bw < b1 := HFP3.out.2.1
        have hb12 := HB12.out
        have hs3 := HS3.out
        have HA7 := Lib.hid (((HA5.out.keep hb2).chg (chg_set w6 bw 0 (.slice A2 q2 c2)) (by omega)).keep hz7)
        have HO7 := Lib.hid (((HO5.out.keep hb2).chg (chg_set w6 bw 0 (.slice A2 q2 c2)) (by omega)).keep hz7)
        have HG7 := Lib.hid (own_keepT (own_chg (own_keepT HG5.out hb2) (chg_set w6 bw 0 (.slice A2 q2 c2)) (fun g hg => by have := Crc.row_base_lt HG5.out hg; omega)) hz7)
        have HTX7 := Lib.hid ((Tre.txs_put htx2 hcw6 (fun s e => by cases e) (.slice A2 q2 c2)).keep hz7)
        have HGB := Lib.hid (show ∀ i, Gb G i → w3.heap.size ≤ i ∧ i < w5.heap.size ∧ Apart i A2 l2 from fun i hi => by
          have h1 := gb_row HG5.out hi
          exact ⟨h1.1, h1.2, hap2 i h1.2 (HFP3.out.2.2.2 i (by omega))⟩)
        have HFR := Lib.hid (show ∀ a, G2 = some a → w3.heap.size ≤ a.block from fun a e => Nat.le_trans HS5.out (hfr2 a e))
        have hc10 := HA5.out.lt
        clear hmd hz7 hbo5 ht2 hl2 hA2 hcc2 htx2 hfr2 hb2 hap2 hll2 hb12 hs3 hc0 hc1 hc2 hc3 hc4 hcw
        go_upto_region 12 with fail
        generalize (w6.setCell ⟨bw, 0, none⟩ (.slice A2 q2 c2)).alloc (.cells #[.slice A2 q2 c2] 29) = w7 at *
        clear hlw hcw6 hfw6 hbw1 hc10
        have hc0 := HO7.out.c0
        have hc1 := HO7.out.c1
        have hc2 := HO7.out.c2
        have hc3 := HO7.out.c3
        have hc4 := HO7.out.c4
        go_wp2_with fail
        refine (HACT.out w7 HMD.out.mem (Crc.own_bts HG7.out HBYT.out (by have := HLIT.out.2; omega)) (fun i hi hf => by have h1 := (HGB.out i hi).1; have h2 := HFP3.out.1 i hf; have := HS3.out; have := HB12.out; omega)).mono ?_
        rintro e w8 ⟨G3, g3, rfl, htx3, htr⟩
        obtain ⟨L', hbo8, hfp8⟩ := HMD.out.act HWF.out htr
        have HBO8 := Lib.hid hbo8
        have hgb8 : ∀ i, Gb G i → ¬ Fp t L i := fun i hi hf => by have h1 := (HGB.out i hi).1; have h2 := HFP3.out.1 i hf; have := HS3.out; have := HB12.out; omega
        have HA8 := Lib.hid (HA7.out.chg htr.1 (fun hf => by have := HFP3.out.1 _ hf; omega))
        have HO8 := Lib.hid (HO7.out.chg htr.1 (fun hf => by have := HFP3.out.1 _ hf; have := HB12.out; omega))
        have HG8 := Lib.hid (own_chg HG7.out htr.1 (fun g hg hf => by have h1 := Crc.row_base_lt HG7.out hg; have h2 := HFP3.out.1 _ hf; have := HS3.out; have := HB12.out; omega))
        have HTX8 := Lib.hid (txs_chg HTX7.out htr.1 (fun a e _ hf => by have h1 := HFR.out a e; have h2 := HFP3.out.1 _ hf; have := HS3.out; have := HB12.out; omega))
        have HTM8 := Lib.hid htx3
        have HGF := Lib.hid (show ∀ i, Gb G i → ¬ Fp r.1 L' i ∧ Apart i A2 l2 ∧ i ≠ bw ∧ w.heap.size ≤ i from fun i hi => by
          obtain ⟨h1, h2, h3⟩ := HGB.out i hi
          have f1 := HFP3.out.2.1
          have f2 := HFP3.out.2.2.1
          have f3 := HB12.out
          have f4 := HS3.out
          refine ⟨fun hf => ?_, h3, by omega, by omega⟩
          rcases hfp8 i hf with h4 | h4
          · exact hgb8 i hi h4
          · have := HMD.out.size
            omega)
        clear hbo8 hfp8 hgb8 htr htx3 hc0 hc1 hc2 hc3 hc4
        generalize hnl : r.2.2.2.length = nl at *
        have HNL := Lib.hid hnl
        clear hnl
        have ho4 := HO8.out.c4
        go_wp2_with fail
        clear ho4
        go_loopw [62] (fun ix wx => ∃ (i : Nat) (bs' : List Nat), i ≤ m ∧ ix = .int .i64 (i : Int) ∧ Crc.Byt bs' ∧ bs'.length = m ∧ wx.ownsRow w3.heap.size 5 1 (.slice G m gq) m (Crc.u8s bs') ∧ Chg (Gb G) w8 wx ∧ Txs wx G3 r.2.2.2 ∧ Txs wx G2 r.2.2.2) (fun ix _ => m - (intOf ix).toNat)
        case atStart => exact ⟨0, bs, Nat.zero_le _, rfl, HBYT.out, HM.out.symm, HG8.out, Chg.refl _ _, HTM8.out, HTX8.out⟩
        case round =>
          obtain ⟨i, bs', hi, rfl, hby, hbl, hown, hch, htm, htx⟩ := hrel
          have HBY := Lib.hid hby
          have HBL := Lib.hid hbl
          have HOW := Lib.hid hown
          have HCH := Lib.hid hch
          have HTM := Lib.hid htm
          have HTX := Lib.hid htx
          have HOX := Lib.hid (HO8.out.chg hch (fun hf => by have := (HGB.out _ hf).1; have := HS3.out; omega))
          clear hby hbl hown hch htm htx HTM8 HTX8 HG8
          by_cases hlti : i < m
          · have hG : ∃ g, G = some ⟨g, 0, none⟩ := by
              rcases HOW.out.2 with ⟨e, h0⟩ | ⟨g, cap, cur, e, _⟩
              · omega
              · injection e with e
                exact ⟨g, e⟩
            obtain ⟨g, rfl⟩ := hG
            have hib : i < bs'.length := by rw [HBL.out]; exact hlti
            have hca := HOW.out.cellAt i (by omega)
            have hfa := HOW.out.frozenAt i
            have hxv : (Crc.u8s bs')[i]? = some (.int .u8 (bs'[i] : Int)) := by simp [Crc.u8s, List.getElem?_map, List.getElem?_eq_getElem hib]
            rw [hxv] at hca
            obtain ⟨y, hy, hw⟩ := u8_plus bs'[i] (HBY.out _ (List.getElem_mem hib))
            generalize bs'[i] = xx at *
            have hst := (HOW.out.stored i (.int .u8 (y : Int))).1
            rw [u8s_set] at hst
            have HST := Lib.hid hst
            have HCH2 := Lib.hid (HCH.out.trans (chg_set wr g i (.int .u8 (y : Int))) (fun k hk => .inl ⟨_, rfl, hk⟩))
            have HTM2 := Lib.hid (txs_off HTM.out hca (fun s e => by cases e) (.int .u8 (y : Int)))
            have HTX2 := Lib.hid (txs_off HTX.out hca (fun s e => by cases e) (.int .u8 (y : Int)))
            have HBY2 := Lib.hid (byt_set HBY.out i hy)
            have hgl := (gb_row HOW.out (i := g) ⟨_, rfl, rfl⟩).2
            have ho4 := HOX.out.c4
            have hi0 : (0 : Int) ≤ (i : Int) := by omega
            have hi1 : (i : Int) < (m : Int) := by omega
            clear hst hxv hib hy
            go_wp2
            exact ⟨⟨i + 1, bs'.set i y, by omega, by go_num, HBY2.out, by rw [List.length_set]; exact HBL.out, HST.out, HCH2.out, HTM2.out, HTX2.out⟩, by simp [intOf]; omega⟩
          · obtain rfl : i = m := by omega
            have HBO9 := Lib.hid (HBO8.out.offF HCH.out HGF.out)
            have HA9 := Lib.hid (HA8.out.chg HCH.out (fun hf => by have := (HGB.out _ hf).1; have := HS3.out; have := HB12.out; omega))
            have hq2 : q2 = r.1.length := by rw [← HLL2.out]; exact both_len HBO9.out
            have hl41 : r.1.length ≤ 41 := by have := HLN.out; have := HN4.out; omega
            obtain ⟨k1, hk1⟩ : ∃ k1 : Nat, k1 = r.1.length + 1 := ⟨_, rfl⟩
            have hwq : IntKind.i64.wrap ((q2 : Int) + 1) = (k1 : Int) := by rw [IntKind.wrap_i64]; omega
            have HCNT := Lib.hid (fun (W : World) (hb : Below wr.heap.size wr W) => show Calls Tryz.prog 15 #[.pointer (some ⟨bt, 0, none⟩)] W (fun e w' => e = .returned (.int .i64 (k1 : Int)) ∧ Below wr.heap.size wr w' ∧ w'.cell? ⟨bw, 0, none⟩ = some (.slice A2 q2 c2)) from
              (Count_any W (j + 1) bt r.1 L' (HBO9.out.keep hb).mem HBO9.out.root HBO9.out.wf (by omega)).mono (fun e w' h => by
                have hb2 := hb.trans (h.2.mono hb.size)
                have hcl := (HBO9.out.keep hb2).ds.cell
                rw [HLL2.out] at hcl
                exact ⟨by rw [h.1, hk1]; rfl, hb2, hcl⟩))
            have HALL := Lib.hid (fun (W : World) (hb : Below wr.heap.size wr W) => show Calls Tryz.prog 14 #[.pointer (some ⟨bt, 0, none⟩)] W (fun e w' => ∃ (A5 : Option Addr) (c5 : Nat) (its5 : List It), e = .returned (.slice A5 its5.length c5) ∧ w'.cell? ⟨bw, 0, none⟩ = some (.slice A2 q2 c2) ∧ Calls Tryz.prog 13 #[.slice A5 its5.length c5, tv A2 q2 c2] w' (fun e w6 => e = .returned (.bool true) ∧ w6.cell? ⟨bw, 0, none⟩ = some (.slice A2 q2 c2) ∧ Below wr.heap.size wr w6)) from
              (all_any W (j + 1) bt r.1 L' (HBO9.out.keep hb).mem HBO9.out.root HBO9.out.wf (by omega)).mono (fun e w' h => by
                obtain ⟨A5, c5, its5, rfl, hI5, ht5, _, hb5⟩ := h
                have hb2 := hb.trans (hb5.mono hb.size)
                have h5 := (HBO9.out.keep hb2).ds
                have hcl := h5.cell
                rw [HLL2.out] at hcl
                refine ⟨A5, c5, its5, rfl, hcl, ?_⟩
                refine (Tre.lawSame_yes w' A5 A2 c5 c2 q2 its5 l2 HLL2.out h5.row hI5 (by omega) (by rw [h5.eq]; exact tells_sm ht5)).mono (fun e w6 h6 => ?_)
                have hb6 := hb2.trans (h6.2.mono hb2.size)
                have hcl := (HBO9.out.keep hb6).ds.cell
                rw [HLL2.out] at hcl
                exact ⟨h6.1, hcl, hb6⟩))
            have HSA := Lib.hid ((Pat.same_self wr.drew G3 G2 g3 g2 nl r.2.2.2 HNL.out (HTM.out.keep (Tre.below_drew (Below.refl _ _))) (HTX.out.keep (Tre.below_drew (Below.refl _ _)))).mono (fun e w' h => show e = .returned (.bool true) ∧ Below wr.heap.size wr w' ∧ w'.cell? ⟨bw, 0, none⟩ = some (.slice A2 q2 c2) from by
              obtain ⟨h1, n1, h2⟩ := h
              have hb2 : Below wr.heap.size wr w' := by rw [h2]; exact Pat.below_drewN (Tre.below_drew (Below.refl _ _)) n1
              have hcl := (HBO9.out.keep hb2).ds.cell
              rw [HLL2.out] at hcl
              exact ⟨h1, hb2, hcl⟩))
            have hcl := HBO9.out.ds.cell
            rw [HLL2.out] at hcl
            have hbwl := HBO9.out.ds.lt
            generalize r.2.1 = z at *
            generalize r.2.2.1 = s at *
            clear hq2 hk1
            go_wp2_with fail
            go_region_held3 (fun W' => W'.cell? ⟨bw, 0, none⟩ = some (.slice A2 q2 c2)) (go_keep)
              (first
              | (go_at_call 12
                 with_reducible refine HSA.out.mono ?_
                 rintro e w10 ⟨rfl, hb10, hcl10⟩
                 have hall10 := HALL.out w10 hb10
                 clear hb10)
              | (go_at_call 14
                 with_reducible refine Calls.mono (by assumption) ?_
                 rintro e w11 ⟨A5, c5, its5, rfl, hcl11, hsm11⟩)
              | (go_at_call 13
                 with_reducible refine Calls.mono (by assumption) ?_
                 rintro e w12 ⟨rfl, hcl12, hb12⟩
                 have hcnt12 := HCNT.out w12 hb12
                 clear hb12)
              | (go_at_call 15
                 with_reducible refine Calls.mono (by assumption) ?_
                 rintro e w13 ⟨rfl, hb13, hcl13⟩
                 have HB13 := Lib.hid hb13
                 clear hb13))
            have HBO13 := Lib.hid (HBO9.out.keep HB13.out)
            have HA13 := Lib.hid (HA9.out.keep HB13.out)
            have hcp := HA13.out.c1
            have hcd := HBO13.out.ds.cell
            rw [HLL2.out] at hcd
            have hsz := size_any w13 (j + 1) bt r.1 L' p HBO13.out.mem HBO13.out.root HBO13.out.wf (by have := HLIT.out.1; omega)
            have HDZ := Lib.hid (fun (W : World) (hb : Below w13.heap.size w13 W) => show Calls Tryz.prog 17 #[tv A2 q2 c2, .string p] W (fun e w' => e = .returned (.tuple #[.int .i64 (Tre.sizeT r.1 p).1, .bool (Tre.sizeT r.1 p).2.1, .int .i64 (Tre.sizeT r.1 p).2.2]) ∧ Below W.heap.size W w') from by
              have h5 := (HBO13.out.keep hb).ds
              have := Tre.size_any W A2 c2 q2 l2 p HLL2.out h5.row (by have := HLIT.out.1; omega) (by have := HLL2.out; have h6 := congrArg List.length h5.eq; simp at h6; omega)
              rw [h5.eq] at this
              exact this)
            have HSZ := Lib.hid hsz
            clear hsz HALL HCNT HSA hcl hbwl HACT HDO
            generalize Tre.sizeT r.1 p = u at *
            go_wp2_with fail
            refine HSZ.out.mono ?_
            rintro e w14 ⟨rfl, hb14⟩
            have hcd14 := (HBO13.out.keep hb14).ds.cell
            rw [HLL2.out] at hcd14
            have hcp14 := (HA13.out.keep hb14).c1
            have HD14 := Lib.hid (HDZ.out w14 hb14)
            have HBO14 := Lib.hid (HBO13.out.keep hb14)
            clear hb14 hcd hcp
            go_wp2_with fail
            refine HD14.out.mono ?_
            rintro e w15 ⟨rfl, hb15⟩
            have HBO15 := Lib.hid (HBO14.out.keep hb15)
            clear hb15 hcd14 hcp14
            have hn4 := HN4.out
            go_wp2
            exact ⟨⟨j + 1, r.1, L', A2, c2, l2, by omega, by go_num, HLN.out, HBO15.out⟩, by simp [intOf]; omega⟩
      · have HBZ := Lib.hid HBR.out.below
        go_wp2
        go_ret
        exact ⟨rfl, HBZ.out⟩
  · rw [show fewA acs = false from decide_eq_false hf]
    go_wp2_with fail
    refine (lives_any w2).mono ?_
    rintro e w3 ⟨rfl, hb3⟩
    have HB3 := Lib.hid (HB2.out.trans (hb3.mono HB2.out.size))
    clear hb3
    go_wp2
    go_ret
    exact ⟨rfl, HB3.out⟩
end Trk
end Go.Proofs.YtkhkcfbacnkcnaaGreatDoor
/- Law 13's Ref: the program's tree, as the document has it. -/
namespace Go.Proofs.YtkhkcfbacnkcnaaGreatDoor
open Go.RowKit Go.MapKept
namespace Trk
open Tre (Nm Th It Its Tg Ths ths tv tcells allT jnT Apart smT)
open Pat (Txs)

/-- things in order are in order -/
theorem allT_twice {t : List Th} (hW : Wf t) : allT (allT t) = allT t := by
  have hp : (allT t).Pairwise (fun a b => Tre.ahead a b = true) := sorted_pw (lt := Tre.ahead) (fun a b c h1 h2 => bef_tr a.1 b.1 c.1 h1 h2) t (once_pw hW.once)
  exact one_of ahead_as (sorted_perm (allT t)) (sorted_pw (lt := Tre.ahead) (fun a b c h1 h2 => bef_tr a.1 b.1 c.1 h1 h2) (allT t) (hp.imp fun h => .inl h)) hp
theorem spl_jn {n : Nm} (h : Pat.IsNames n) : Pat.spl (jnT n) = some n := by
  unfold Tre.jnT
  rw [if_pos h]
  exact Pat.spl_pth h

/-- things that grow in a row of the call's own -/
structure Rac (w : World) (B : Nat) (v : Value) (l : List Tg) : Prop where
  row : w.ownsRow B 93 3 v l.length (tcells l)
  ok : ∀ g ∈ l, Txs w g.1 g.2.2.1 ∧ g.2.2.1.length ≤ g.2.1 ∧ g.2.2.2.2.size ≤ 9223372036854775807
  blk : ∀ g ∈ l, ∀ a, g.1 = some a → g.2.2.1 ≠ [] → B ≤ a.block ∧ v.ownBlock ≠ some a.block
theorem rac_nil (w : World) (B : Nat) : Rac w B (.slice none 0 0) [] := ⟨World.ownsRow_nil _ _ _ _, fun g hg => by simp at hg, fun g hg => by simp at hg⟩
theorem Rac.chg {w w' : World} {F : Nat → Prop} {B : Nat} {v : Value} {l : List Tg} (h : Rac w B v l) (hc : Chg F w w') (hF : ∀ i, F i → i < B) : Rac w' B v l :=
  ⟨own_chg h.row hc (fun g hg hf => by have h1 := hF g hf; have h2 := (row_blk h.row hg).1; omega), fun g hg => ⟨txs_chg (h.ok g hg).1 hc (fun a e hn hf => by have h1 := hF _ hf; have h2 := (h.blk g hg a e hn).1; omega), (h.ok g hg).2⟩, h.blk⟩
theorem Rac.keep {w w' : World} {B : Nat} {v : Value} {l : List Tg} (h : Rac w B v l) (hb : Below w.heap.size w w') : Rac w' B v l := h.chg (Chg.of_below (F := fun _ => False) hb) (fun _ h => h.elim)
theorem thing_parts : ∃ i0, Tryz.prog.info? 93 = some i0 ∧ i0.zero = some (.agg #[.slice none 0 0, .bool false, .string ByteArray.empty]) ∧ i0.size = 3 ∧ i0.bytes = 48 := Pat.info_parts Tre.thing_info
/-- a thing more -/
theorem Rac.more {w : World} {B : Nat} {v : Value} {l : List Tg} (h : Rac w B v l) (g : Tg) (h1 : Txs w g.1 g.2.2.1) (h2 : g.2.2.1.length ≤ g.2.1) (h3 : g.2.2.2.2.size ≤ 9223372036854775807) (h4 : ∀ a, g.1 = some a → g.2.2.1 ≠ [] → B ≤ a.block ∧ v.ownBlock ≠ some a.block) (hB : B ≤ w.heap.size) (hn : l.length ≤ 1000000) :
    ∃ A c w2, (Builtin.append_ #[27, 27] 27 #[v, .slice (some ⟨w.heap.size, 0, none⟩) 1 1]).run Tryz.prog (w.alloc (.cells #[.slice g.1 g.2.2.1.length g.2.1, .bool g.2.2.2.1, .string g.2.2.2.2] 93)) = .ok (.slice A (l.length + 1) c) w2 ∧ Rac w2 B (.slice A (l.length + 1) c) (l ++ [g]) ∧ Chg (fun i => v.ownBlock = some i) w w2 := by
  have hba : Below w.heap.size w (w.alloc (.cells #[.slice g.1 g.2.2.1.length g.2.1, .bool g.2.2.2.1, .string g.2.2.2.2] 93)) := (Below.refl _ w).alloc (Nat.le_refl _) _
  have ha := h.keep hba
  obtain ⟨i0, hi0, hz0, hz1, hz2⟩ := thing_parts
  obtain ⟨v2, w2, hrun, ho, hg, _, hat⟩ := run_append_own_at (P := Tryz.prog) (w.alloc (.cells #[.slice g.1 g.2.2.1.length g.2.1, .bool g.2.2.2.1, .string g.2.2.2.2] 93)) B 27 27 93 i0 _ 3 48 Tryz.underlying27 hi0 hz0 hz1 hz2 rfl (by decide) v l.length (tcells l) ha.row ⟨w.heap.size, 0, none⟩ 1 1 [.slice g.1 g.2.2.1.length g.2.1, .bool g.2.2.2.1, .string g.2.2.2.2] rfl (Tre.three_new w _ _ _ _) (by simp [Value.oneCell']) (by unfold maxLen; omega) (by omega) (Nat.le_trans hB hba.size)
  have hch : Chg (fun i => v.ownBlock = some i) w w2 := Chg.after hba ⟨hg.os, hg.tape, hg.output, hg.size, fun k hk hne => hg.block k hk (fun e => hne e.symm)⟩
  have hv2 : v2.ownBlock = v.ownBlock ∨ ∃ k, v2.ownBlock = some k ∧ w.heap.size ≤ k := hat.imp id (fun e => ⟨_, e, by rw [World.size_alloc]; omega⟩)
  have hall : ∀ z ∈ l ++ [g], (Txs w z.1 z.2.2.1 ∧ z.2.2.1.length ≤ z.2.1 ∧ z.2.2.2.2.size ≤ 9223372036854775807) ∧ ∀ a, z.1 = some a → z.2.2.1 ≠ [] → B ≤ a.block ∧ v.ownBlock ≠ some a.block := fun z hz => by
    rcases List.mem_append.1 hz with h5 | h5
    · exact ⟨h.ok z h5, h.blk z h5⟩
    · obtain rfl : z = g := by simpa using h5
      exact ⟨⟨h1, h2, h3⟩, h4⟩
  have hrow : w2.ownsRow B 93 3 v2 (l.length + 1) (tcells (l ++ [g])) := by
    rw [Tre.tcells_append]
    exact ho
  obtain ⟨A, c, rfl⟩ := Tre.row_slice3 hrow
  refine ⟨A, c, w2, hrun, ⟨by rw [List.length_append, List.length_singleton]; exact hrow, fun z hz => ?_, fun z hz a e hne => ?_⟩, hch⟩
  · obtain ⟨⟨q1, q2⟩, q3⟩ := hall z hz
    exact ⟨txs_chg q1 hch (fun a e hne hf => (q3 a e hne).2 hf), q2⟩
  · obtain ⟨⟨q1, q2⟩, q3⟩ := hall z hz
    obtain ⟨q4, q5⟩ := q3 a e hne
    refine ⟨q4, fun e5 => ?_⟩
    rcases hv2 with h5 | ⟨k, h5, h6⟩
    · exact q5 (h5.symm.trans e5)
    · rw [h5] at e5
      injection e5 with e5
      obtain ⟨b, o, e6, hlt, _⟩ := q1.at' 0 (List.length_pos_iff.2 hne)
      rw [e] at e6
      injection e6 with e6
      subst e6
      simp only at e5
      omega
theorem Rac.ths {w : World} {B n c : Nat} {A : Option Addr} {l : List Tg} (h : Rac w B (.slice A n c) l) (hl : l.length = n) (hn : n ≤ 1000000) : Ths w A l := by
  subst hl
  exact (Tre.own_ths h.row hn (fun g hg => ⟨(h.ok g hg).1, (h.ok g hg).2.1⟩) (fun g hg => (h.ok g hg).2.2)).1
theorem Rac.apart {w : World} {B n c : Nat} {A : Option Addr} {l : List Tg} (h : Rac w B (.slice A n c) l) (hl : l.length = n) {b : Nat} (hb : b < B) : Apart b A l := by
  refine ⟨fun a e hne => ?_, fun g hg a e hne => ?_⟩
  · have : B ≤ a.block := by
      subst hl
      rcases h.row.2 with ⟨e2, _⟩ | ⟨g, cap, cur, e2, hB, _⟩
      · simp only [Value.slice.injEq] at e2
        rw [e2.1] at e
        cases e
      · simp only [Value.slice.injEq] at e2
        rw [e2.1] at e
        injection e with e
        subst e
        exact hB
    omega
  · have := (h.blk g hg a e hne).1
    omega

/-- a value in a box -/
structure Wbx (w : World) (b : Nat) (v : Value) : Prop where
  lt : b < w.heap.size
  c : w.cell? ⟨b, 0, none⟩ = some v
  f : w.frozen? ⟨b, 0, none⟩ = false
theorem wbx_new (w : World) (v : Value) (t : TypeId) : Wbx (w.alloc (.cells #[v] t)) w.heap.size v := by
  have r := World.rowIs_alloc w #[v] t (fun _ => v) (fun j hj => by
    have : j < 1 := hj
    match j, this with
    | 0, _ => rfl)
  exact ⟨by simp, r.cell (by simp), r.frozen 0⟩
theorem Wbx.chg {w w' : World} {F : Nat → Prop} {b : Nat} {v : Value} (h : Wbx w b v) (hc : Chg F w w') (hF : ¬ F b) : Wbx w' b v := by
  have hx := hc.block b h.lt hF
  exact ⟨Nat.lt_of_lt_of_le h.lt hc.size, (World.cell?_of_block (w := w) (a := ⟨b, 0, none⟩) hx).trans h.c, (World.frozen?_of_block (w := w) (a := ⟨b, 0, none⟩) hx).trans h.f⟩
theorem Wbx.keep {w w' : World} {b : Nat} {v : Value} (h : Wbx w b v) (hb : Below w.heap.size w w') : Wbx w' b v := h.chg (Chg.of_below (F := fun _ => False) hb) (fun h => h)
theorem Wbx.put {w : World} {b : Nat} {v : Value} (h : Wbx w b v) (u : Value) : Wbx (w.setCell ⟨b, 0, none⟩ u) b u :=
  ⟨by simpa [World.setCell] using h.lt, World.cell?_setCell_same _ _ _ h.c, (World.frozen?_setCell _ _ _ _).trans h.f⟩

/-- block i is none of the items' -/
def Itp (i : Nat) (A : Option Addr) (l : List It) : Prop := (∀ a, A = some a → l ≠ [] → a.block ≠ i) ∧ ∀ g ∈ l, ∀ a, g.a = some a → g.b ≠ [] → a.block ≠ i
theorem Acc.itp {w : World} {B n c : Nat} {A : Option Addr} {its : List It} (h : Acc w B (.slice A n c) its) {i : Nat} (hi : i < B) : Itp i A its := by
  refine ⟨fun a e hne => ?_, fun g hg a e hne => ?_⟩
  · have : B ≤ a.block := by
      rcases h.row.2 with ⟨e2, _⟩ | ⟨g, cap, cur, e2, hB, _⟩
      · simp only [Value.slice.injEq] at e2
        rw [e2.1] at e
        cases e
      · simp only [Value.slice.injEq] at e2
        rw [e2.1] at e
        injection e with e
        subst e
        exact hB
    omega
  · have := (gb_row (h.ok g hg).2.2.1 ⟨a, e, rfl⟩).1
    omega
theorem its_past {w : World} {A : Option Addr} {l : List It} (h : Its w A l) {i : Nat} (hi : w.heap.size ≤ i) : Itp i A l := by
  refine ⟨fun a e hl => ?_, fun g hg a e hn => ?_⟩
  · obtain ⟨b', o', e', hlt, _⟩ := h.at' 0 (List.length_pos_iff.2 hl)
    rw [e] at e'
    injection e' with e'
    subst e'
    simp only
    omega
  · obtain ⟨b', o', e', hlt, _⟩ := (h.ok g hg).2.2.1.at' 0 (List.length_pos_iff.2 hn)
    rw [e] at e'
    injection e' with e'
    subst e'
    simp only
    omega
theorem its_chg {w w' : World} {F : Nat → Prop} {A : Option Addr} {l : List It} (h : Its w A l) (hc : Chg F w w') (ha : ∀ i, F i → Itp i A l) : Its w' A l :=
  ⟨h.len, fun g hg => by
    obtain ⟨h1, h2, h3, h4⟩ := h.ok g hg
    exact ⟨h1, h2, bts_chg h3 hc (fun ad e h0 hf => (ha _ hf).2 g hg ad e h0 rfl), h4⟩, fun j hj => by
    obtain ⟨b, o, e, hlt, k0, k1, k2⟩ := h.at' j hj
    have hx := hc.block b hlt (fun hf => (ha _ hf).1 _ e (fun h0 => by rw [h0] at hj; simp at hj) rfl)
    exact ⟨b, o, e, Nat.lt_of_lt_of_le hlt hc.size, (World.cell?_of_block (w := w) (a := ⟨b, o + j * 3, none⟩) hx).trans k0, (World.cell?_of_block (w := w) (a := ⟨b, o + j * 3 + 1, none⟩) hx).trans k1, (World.cell?_of_block (w := w) (a := ⟨b, o + j * 3 + 2, none⟩) hx).trans k2⟩⟩

/-- what law 13's Ref answers -/
def RefR (w : World) (t : List Th) (e : Ending) (w' : World) : Prop :=
  ∃ (A : Option Addr) (c : Nat) (l : List Tg), e = .returned (tv A l.length c) ∧ Ths w' A l ∧ ths l = allT t ∧ Below w.heap.size w w' ∧ ∀ b, b < w.heap.size → Apart b A l

set_option maxRecDepth 100000 in
set_option maxHeartbeats 4000000 in
theorem ref_any (w : World) (N b0 : Nat) (t : List Th) (L : Nm → Nd) (hM : Mem w N t L) (hb : (L []).b = b0) (hW : Wf t) (hl : t.length ≤ 100000) :
    Calls Tryz.prog 19 #[.pointer (some ⟨b0, 0, none⟩)] w (RefR w t) := by
  have hb0 := ((Below.refl w.heap.size w).alloc (Nat.le_refl _) (.cells #[.slice none 0 0] 29)).alloc (by simp) (.cells #[.slice none 0 0] 29)
  have HB0 := Lib.hid hb0
  have HALL := Lib.hid (all_any ((w.alloc (.cells #[.slice none 0 0] 29)).alloc (.cells #[.slice none 0 0] 29)) N b0 t L (hM.keep hb0) hb hW hl)
  have HNM := Lib.hid (show ∀ x ∈ allT t, Pat.IsNames x.1 ∧ x.2.2.size ≤ 268435456 from fun x hx => ⟨(hW.nm x (Tre.mem_sorted _ _ _ hx)).2, hW.size x (Tre.mem_sorted _ _ _ hx)⟩)
  have HLEN := Lib.hid (show (allT t).length ≤ 100000 by rw [show (allT t).length = t.length from Tre.sorted_len _ _]; exact hl)
  obtain ⟨br, hbr⟩ : ∃ br, br = w.heap.size := ⟨_, rfl⟩
  obtain ⟨bw, hbw⟩ : ∃ bw, bw = w.heap.size + 1 := ⟨_, rfl⟩
  have HBX0 := Lib.hid (show Wbx ((w.alloc (.cells #[.slice none 0 0] 29)).alloc (.cells #[.slice none 0 0] 29)) bw (.slice none 0 0) by
    have := wbx_new (w.alloc (.cells #[.slice none 0 0] 29)) (.slice none 0 0) 29
    rw [show (w.alloc (.cells #[.slice none 0 0] 29)).heap.size = bw by rw [hbw]; simp] at this
    exact this)
  have HBR0 := Lib.hid (show Wbx ((w.alloc (.cells #[.slice none 0 0] 29)).alloc (.cells #[.slice none 0 0] 29)) br (.slice none 0 0) by
    rw [hbr]
    exact (wbx_new w (.slice none 0 0) 29).keep ((Below.refl _ _).alloc (Nat.le_refl _) _))
  have HS0 := Lib.hid (show ((w.alloc (.cells #[.slice none 0 0] 29)).alloc (.cells #[.slice none 0 0] 29)).heap.size = bw + 1 by rw [hbw]; simp)
  have HBW := Lib.hid (show br = w.heap.size ∧ bw = br + 1 from ⟨hbr, by rw [hbw, hbr]⟩)
  have hbw2 : br + 1 = bw := by rw [hbw, hbr]
  clear hM hb hW hl hb0
  go_enter Tryz.func19, Tryz.ntmps19
  go_wp2_with fail
  rw [← hbr, hbw2]
  generalize (w.alloc (.cells #[.slice none 0 0] 29)).alloc (.cells #[.slice none 0 0] 29) = w1 at *
  clear hbw hbr hbw2
  refine HALL.out.mono ?_
  rintro e w2 ⟨I, ic, its, rfl, hI, ht, hacc, hb2⟩
  have HI := Lib.hid hI
  have HT := Lib.hid ht
  have HB2 := Lib.hid hb2
  have HBX2 := Lib.hid (HBX0.out.keep hb2)
  have HBR2 := Lib.hid (HBR0.out.keep hb2)
  have HBL2 := Lib.hid (HB0.out.trans (hb2.mono HB0.out.size))
  have HIP := Lib.hid (show (∀ i, i ≤ bw ∨ w2.heap.size ≤ i → Itp i I its) ∧ bw < w2.heap.size from ⟨fun i h => h.elim (fun h => hacc.itp (by rw [HS0.out]; omega)) (fun h => its_past hI h), by have := HS0.out; have := hb2.size; omega⟩)
  have hln := tells_len ht
  have HLN := Lib.hid hln
  clear hI ht hb2 HALL hacc
  generalize hq : its.length = q at *
  have HQ := Lib.hid hq
  have hq9 : q ≤ 100000 := by have := HLEN.out; omega
  clear hq hln
  go_wp2_with fail
  go_loopw [11] (fun ix wr => ∃ (j : Nat) (A : Option Addr) (c : Nat) (l : List Tg), j ≤ q ∧ ix = .int .i64 (j : Int) ∧ Rac wr w2.heap.size (.slice A j c) l ∧ l.length = j ∧ ths l = (allT t).take j ∧ Wbx wr bw (.slice A j c) ∧ Wbx wr br (.slice none 0 0) ∧ Its wr I its ∧ Below w.heap.size w wr ∧ w2.heap.size ≤ wr.heap.size) (fun ix _ => q - (intOf ix).toNat)
  case atStart => exact ⟨0, none, 0, [], Nat.zero_le _, rfl, rac_nil _ _, rfl, rfl, HBX2.out, HBR2.out, HI.out, HBL2.out, Nat.le_refl _⟩
  case round =>
    obtain ⟨j, A, c, l, hj, rfl, hrac, hlj, hth, hbx, hbr, hits, hbel, hbs⟩ := hrel
    have HRAC := Lib.hid hrac
    have HLJ := Lib.hid hlj
    have HTH := Lib.hid hth
    have HBX := Lib.hid hbx
    have HBR := Lib.hid hbr
    have HITS := Lib.hid hits
    have HBEL := Lib.hid hbel
    clear hrac hlj hth hbx hbr hits hbel
    by_cases hlt : j < q
    · have hlti : j < its.length := by rw [HQ.out]; exact hlt
      have hltt : j < (allT t).length := by rw [← HLN.out]; exact hlt
      obtain ⟨h1, h2, h3⟩ := tells_at HT.out hlti hltt
      obtain ⟨bi, oi, rfl, hbli, k0, k1, k2⟩ := HITS.out.at' j hlti
      have hok := HITS.out.ok _ (List.getElem_mem hlti)
      obtain ⟨hnm, hsz⟩ := HNM.out _ (List.getElem_mem hltt)
      have hsp := spl_jn hnm
      have hjs := jn_size hnm
      rw [← h1] at hsp hjs
      have HTK := Lib.hid (show (allT t).take (j + 1) = (allT t).take j ++ [(allT t)[j]] from List.take_succ_eq_append_getElem hltt)
      generalize (allT t)[j] = x at *
      generalize its[j] = q1 at *
      obtain ⟨nm, dd, s⟩ := x
      obtain ⟨p, d, ga, gc, bs⟩ := q1
      simp only at h1 h2 h3 k0 k1 k2 hok hsp hjs hnm hsz
      subst h2 h3
      obtain ⟨m, hm⟩ : ∃ m, m = (Crc.tx s).length := ⟨_, rfl⟩
      rw [← hm] at k2
      have HM := Lib.hid hm
      have HOK := Lib.hid hok
      have HSP := Lib.hid hsp
      have hj0 : (j : Int) < (q : Int) := by omega
      have hm0 : (0 : Int) ≤ (j : Int) := by omega
      clear hm hok hsp hlti hltt h1 hnm
      obtain ⟨b5, hb5⟩ : ∃ b5, b5 = wr.heap.size := ⟨_, rfl⟩
      have hx := (Below.refl wr.heap.size wr).alloc (Nat.le_refl _) (.cells #[.string p, .bool d, .slice ga m gc] 51)
      have HX := Lib.hid hx
      have HC := Lib.hid (show ((wr.alloc (.cells #[.string p, .bool d, .slice ga m gc] 51)).cell? ⟨b5, 0, none⟩ = some (.string p) ∧ (wr.alloc (.cells #[.string p, .bool d, .slice ga m gc] 51)).cell? ⟨b5, 1, none⟩ = some (.bool d) ∧ (wr.alloc (.cells #[.string p, .bool d, .slice ga m gc] 51)).cell? ⟨b5, 2, none⟩ = some (.slice ga m gc)) ∧ b5 < (wr.alloc (.cells #[.string p, .bool d, .slice ga m gc] 51)).heap.size from by
        rw [hb5]
        exact ⟨⟨Crc.alloc_cell wr _ _ 0, Crc.alloc_cell wr _ _ 1, Crc.alloc_cell wr _ _ 2⟩, by simp⟩)
      have HB5 := Lib.hid (show w2.heap.size ≤ b5 by rw [hb5]; exact hbs)
      clear hx
      go_upto_region 5 with fail
      rw [← hb5]
      generalize wr.alloc (.cells #[.string p, .bool d, .slice ga m gc] 51) = w3 at *
      have HS5 := Lib.hid (show b5 = wr.heap.size from hb5)
      clear hb5 k0 k1 k2
      have hc0 := HC.out.1.1
      go_wp2_with fail
      refine (Pat.refSplit_any w3 p (by omega)).mono ?_
      rintro e w4 ⟨hb4, hs4⟩
      rw [HSP.out] at hs4
      rcases hs4 with ⟨nm', B, bc, hsp', rfl, hn4, hbc4, hBB4⟩ | ⟨hsp', _⟩
      · injection hsp' with hsp'
        subst hsp'
        have hcv := Crc.conv_str gc (HOK.out.2.2.1.keep (HX.out.trans (hb4.mono HX.out.size)))
        rw [← HM.out, Ent.str_tx] at hcv
        have hrac4 := (HRAC.out.keep HX.out).keep hb4
        have hbx4 := (HBX.out.keep HX.out).keep hb4
        have hbr4 := (HBR.out.keep HX.out).keep hb4
        have hw34 := hb4.size
        have hwr3 := HX.out.size
        obtain ⟨A5, c5, w5, hrun, hrac5, hch5⟩ := hrac4.more (B, bc, nm, d, s) hn4 hbc4 (by show s.size ≤ _; omega) (fun a e hne => ⟨by have := hBB4 a e; have := HB5.out; have := HC.out.2; omega, fun e2 => by have := (row_blk HRAC.out.row e2).2; have := hBB4 a e; omega⟩) (by have := HB5.out; have := HC.out.2; omega) (by rw [HLJ.out]; have := HLEN.out; have := HLN.out; omega)
        rw [HLJ.out] at hrun hrac5
        have HRUN := Lib.hid hrun
        have HRAC5 := Lib.hid (hrac5.chg (chg_set w5 bw 0 (.slice A5 (j + 1) c5)) (fun i hi => by have := HIP.out.2; omega))
        have hnb : ∀ i, i < w2.heap.size → ¬ (Value.slice A j c).ownBlock = some i := fun i hi e => by have := (row_blk HRAC.out.row e).1; omega
        have hbx5 := hbx4.chg hch5 (hnb bw HIP.out.2)
        have hbr5 := hbr4.chg hch5 (hnb br (by have := HBW.out.2; have := HIP.out.2; omega))
        have HBX6 := Lib.hid (hbx5.put (.slice A5 (j + 1) c5))
        have HBR6 := Lib.hid (hbr5.chg (chg_set w5 bw 0 (.slice A5 (j + 1) c5)) (by have := HBW.out.2; omega))
        have hits4 := (HITS.out.keep HX.out).keep hb4
        have HBEL4 := Lib.hid ((HBEL.out.trans (HX.out.mono HBEL.out.size)).trans (hb4.mono (Nat.le_trans HBEL.out.size HX.out.size)))
        have hbel5 := HBEL4.out.trans (hch5.below HBEL4.out.size (fun i e => by have := (row_blk HRAC.out.row e).1; have := HBW.out; have := HIP.out.2; omega))
        have HBEL6 := Lib.hid (hbel5.setCell (p := ⟨bw, 0, none⟩) (by have := HBW.out; simp only; omega) (.slice A5 (j + 1) c5))
        have hwz : (w5.setCell ⟨bw, 0, none⟩ (.slice A5 (j + 1) c5)).heap.size = w5.heap.size := by simp [World.setCell]
        have HITS6 := Lib.hid (its_chg (its_chg hits4 hch5 (fun i e => HIP.out.1 i (.inr (row_blk HRAC.out.row e).1))) (chg_set w5 bw 0 (.slice A5 (j + 1) c5)) (fun i hi => HIP.out.1 i (.inl (by omega))))
        have HSZ6 := Lib.hid (show w2.heap.size ≤ (w5.setCell ⟨bw, 0, none⟩ (.slice A5 (j + 1) c5)).heap.size from by rw [hwz]; have := hch5.size; have := HB5.out; have := HC.out.2; omega)
        have HTH6 := Lib.hid (show ths (l ++ [(B, bc, nm, d, s)]) = (allT t).take (j + 1) from by rw [HTK.out, ← HTH.out]; simp [Tre.ths])
        have HL6 := Lib.hid (show (l ++ [(B, bc, nm, d, s)]).length = j + 1 from by rw [List.length_append, HLJ.out]; rfl)
        have hcw := hbx4.c
        have hcw5 := hbx5.c
        have hfw5 := hbx5.f
        have hlw5 := hbx5.lt
        have hd1 := (hb4.cell (p := ⟨b5, 1, none⟩) HC.out.2).trans HC.out.1.2.1
        have hd2 := (hb4.cell (p := ⟨b5, 2, none⟩) HC.out.2).trans HC.out.1.2.2
        clear hrun hrac5 hnb hbx5 hbr5 hits4 hbel5 hrac4 hbx4 hbr4 hw34 hwr3 hch5 hc0 hn4 hbc4 hBB4 hb4
        generalize l ++ [(B, bc, nm, d, s)] = l2 at *
        simp only at HRUN
        generalize nm.length = nl at *
        go_wp2_with (at_builtin; refine Pat.wpList_append_run rfl (.tmp 22) (.tmp 30) 27 rfl _ _ _ rfl rfl HRUN.out ?_)
        exact ⟨⟨j + 1, A5, c5, l2, by omega, by go_num, HRAC5.out, HL6.out, HTH6.out, HBX6.out, HBR6.out, HITS6.out, HBEL6.out, HSZ6.out⟩, by simp [intOf]; omega⟩
      · cases hsp'
    · obtain rfl : j = q := by omega
      have hc0 := HBX.out.c
      have hc1 := HBR.out.c
      have hf1 := HBR.out.f
      have hl1 := HBR.out.lt
      have hs1 := (HBR.out.put (.slice A j c)).c
      have HR := Lib.hid (show RefR w t (.returned (tv A j c)) (wr.setCell ⟨br, 0, none⟩ (.slice A j c)) from by
        have hrf := HRAC.out.chg (chg_set wr br 0 (.slice A j c)) (fun i hi => by have := HBW.out.2; have := HIP.out.2; omega)
        refine ⟨A, c, l, by rw [HLJ.out], hrf.ths HLJ.out (by have := HLEN.out; have := HLN.out; omega), ?_, HBEL.out.setCell (p := ⟨br, 0, none⟩) (by have := HBW.out.1; simp only; omega) _, fun b hb => hrf.apart HLJ.out (by have := HBW.out; have := HIP.out.2; omega)⟩
        rw [HTH.out, List.take_of_length_le (by have := HLN.out; omega)])
      go_wp2
      refine bodyPost_ret (v := tv A j c) ?_ rfl HR.out
      simp [results, Tryz.results19, go_sem, hs1]
end Trk
end Go.Proofs.YtkhkcfbacnkcnaaGreatDoor
/- Two trees of the program's, apart from each other, and one of the document's. -/
namespace Go.Proofs.YtkhkcfbacnkcnaaGreatDoor
open Go.RowKit Go.MapKept
namespace Trk
open Tre (Nm Th It Its Tg Ths ths tv Apart Ac Acs doT)
open Pat (Txs)

/-- what acts make of a tree -/
def tA (t : List Th) (l : List Ac) : List Th := l.foldl (fun t g => (doT t g.k g.p g.x g.n (Crc.str g.b)).1) t
theorem tA_take (t : List Th) (l : List Ac) {j : Nat} (hj : j < l.length) : tA t (l.take (j + 1)) = (doT (tA t (l.take j)) l[j].k l[j].p l[j].x l[j].n (Crc.str l[j].b)).1 := by
  unfold tA
  rw [List.take_succ_eq_append_getElem hj, List.foldl_append]
  rfl
theorem tA_len (t : List Th) (l : List Ac) : (tA t l).length ≤ t.length + l.length := by
  induction l generalizing t with
  | nil => exact Nat.le_refl _
  | cons g l ih =>
    have h1 := ih (doT t g.k g.p g.x g.n (Crc.str g.b)).1
    have h2 := doT_len t g.k g.p g.x g.n (Crc.str g.b)
    have h3 : tA t (g :: l) = tA (doT t g.k g.p g.x g.n (Crc.str g.b)).1 l := rfl
    rw [h3, List.length_cons]
    omega
theorem wf_tA {t : List Th} (hW : Wf t) {l : List Ac} (hb : ∀ g ∈ l, Crc.Byt g.b) : Wf (tA t l) := by
  induction l generalizing t with
  | nil => exact hW
  | cons g l ih => exact ih (hW.doT g.k g.p g.x g.n (hb g (by simp))) (fun g' hg => hb g' (by simp [hg]))

theorem und_acs : Tryz.prog.underlying 22 = some (.slice (Tryz.prog.elem 22)) := by kernel_rfl
theorem size_acs (W : World) : (sizeOf (Tryz.prog.elem 22)).run Tryz.prog W = .ok 5 W := by kernel_rfl
/-- acts up to a place -/
theorem acs_upto (A : Option Addr) (n c q : Nat) (hq : q ≤ n) (hn : n ≤ c) : ∃ B : Option Addr, (∀ W, (Instr.slice 22 (.slice A n c) none (some (.int .i64 (q : Int))) none).run Tryz.prog W = .ok (.slice B q c) W) ∧ ∀ W (l : List Ac), l.length = n → Acs W A l → Acs W B (l.take q) := by
  refine ⟨if c = 0 then A else A.map (·.add (0 * 5)), fun W => ?_, fun W l hl hb => ?_⟩
  · rw [run_slice_h _ _ _ _ _ und_acs .i64 (q : Int) (by omega) (by omega), size_acs]
    rfl
  · refine ⟨by rw [List.length_take]; have := hb.len; omega, fun g hg => hb.ok g (List.mem_of_mem_take hg), fun j hj => ?_⟩
    rw [List.length_take] at hj
    obtain ⟨b, o, rfl, h1, h2⟩ := hb.at' j (by omega)
    refine ⟨b, o, ?_, h1, ?_⟩
    · split
      · rfl
      · rw [Option.map_some, Go.WideShapes.add_plain]
        rfl
    · rw [List.getElem_take]
      exact h2
/-- acts from a place on -/
theorem acs_from (A : Option Addr) (n c q : Nat) (hq : q ≤ n) (hn : n ≤ c) : ∃ B : Option Addr, (∀ W, (Instr.slice 22 (.slice A n c) (some (.int .i64 (q : Int))) none none).run Tryz.prog W = .ok (.slice B (n - q) (c - q)) W) ∧ ∀ W (l : List Ac), l.length = n → Acs W A l → Acs W B (l.drop q) := by
  refine ⟨if c = q then A else A.map (·.add (q * 5)), fun W => ?_, fun W l hl hb => ?_⟩
  · rw [run_slice_l _ _ _ _ _ und_acs .i64 (q : Int) (by omega) (by omega), size_acs]
    rfl
  · refine ⟨by rw [List.length_drop]; have := hb.len; omega, fun g hg => hb.ok g (List.mem_of_mem_drop hg), fun j hj => ?_⟩
    rw [List.length_drop] at hj
    obtain ⟨b, o, rfl, h1, h2, h3, h4, h5, h6⟩ := hb.at' (q + j) (by omega)
    have e : o + (q + j) * 5 = o + q * 5 + j * 5 := by omega
    rw [e] at h2 h3 h4 h5 h6
    refine ⟨b, o + q * 5, ?_, h1, ?_⟩
    · rw [if_neg (by omega), Option.map_some, Go.WideShapes.add_plain]
    · rw [List.getElem_drop]
      exact ⟨h2, h3, h4, h5, h6⟩

/-- two trees of the program's, apart, and one of the document's in a box ba; w0 is the world ahead of all -/
structure Duo (w0 w : World) (N M bt bc ba : Nat) (v : Value) (t u : List Th) (L K : Nm → Nd) (A : Option Addr) (l : List Tg) : Prop where
  m1 : Mem w N t L
  m2 : Mem w M u K
  r1 : (L []).b = bt
  r2 : (K []).b = bc
  w1 : Wf t
  w2 : Wf u
  ap : ∀ i, Fp t L i → ¬ Fp u K i
  ds : Ths w A l
  f1 : ∀ i, Fp t L i → w0.heap.size ≤ i ∧ Apart i A l ∧ i ≠ ba
  f2 : ∀ i, Fp u K i → w0.heap.size ≤ i ∧ Apart i A l ∧ i ≠ ba
  box : Wbx w ba v
  b0 : w0.heap.size ≤ ba
  below : Below w0.heap.size w0 w
section
variable {w0 w w' : World} {N N' M bt bc ba : Nat} {v : Value} {t u t' : List Th} {L K : Nm → Nd} {A : Option Addr} {l : List Tg}
theorem Duo.swap (h : Duo w0 w N M bt bc ba v t u L K A l) : Duo w0 w M N bc bt ba v u t K L A l :=
  ⟨h.m2, h.m1, h.r2, h.r1, h.w2, h.w1, fun i hi hf => h.ap i hf hi, h.ds, h.f2, h.f1, h.box, h.b0, h.below⟩
theorem Duo.keep (h : Duo w0 w N M bt bc ba v t u L K A l) (hb : Below w.heap.size w w') : Duo w0 w' N M bt bc ba v t u L K A l :=
  ⟨h.m1.keep hb, h.m2.keep hb, h.r1, h.r2, h.w1, h.w2, h.ap, h.ds.keep hb, h.f1, h.f2, h.box.keep hb, h.b0, h.below.trans (hb.mono h.below.size)⟩
/-- where blocks are changed that are none of theirs -/
theorem Duo.off {F : Nat → Prop} (h : Duo w0 w N M bt bc ba v t u L K A l) (hc : Chg F w w') (hF : ∀ i, F i → ¬ Fp t L i ∧ ¬ Fp u K i ∧ Apart i A l ∧ i ≠ ba ∧ w0.heap.size ≤ i) : Duo w0 w' N M bt bc ba v t u L K A l :=
  ⟨h.m1.chg hc (fun i hi hf => (hF i hf).1 hi), h.m2.chg hc (fun i hi hf => (hF i hf).2.1 hi), h.r1, h.r2, h.w1, h.w2, h.ap, ths_chg h.ds hc (fun i hi => (hF i hi).2.2.1), h.f1, h.f2, h.box.chg hc (fun hf => (hF _ hf).2.2.2.1 rfl), h.b0, h.below.trans (hc.below h.below.size (fun i hi => (hF i hi).2.2.2.2))⟩
/-- blocks that are new are none of theirs -/
theorem Duo.past (h : Duo w0 w N M bt bc ba v t u L K A l) {i : Nat} (hi : w.heap.size ≤ i) : ¬ Fp t L i ∧ ¬ Fp u K i ∧ Apart i A l ∧ i ≠ ba ∧ w0.heap.size ≤ i :=
  ⟨fun hf => by have := h.m1.lt hf; omega, fun hf => by have := h.m2.lt hf; omega, h.ds.apart hi, fun e => by have := h.box.lt; omega, Nat.le_trans h.below.size hi⟩
/-- behind an act on the first one -/
theorem Duo.act (h : Duo w0 w N M bt bc ba v t u L K A l) (hW : Wf t') (hr : TrkN w N' t L t' w') : ∃ L', Duo w0 w' N' M bt bc ba v t' u L' K A l := by
  obtain ⟨hc, L', hm, hb, hf⟩ := hr
  refine ⟨L', ⟨hm, h.m2.chg hc (fun i hi hf => h.ap i hf hi), hb.trans h.r1, h.r2, hW, h.w2, fun i hi hf2 => ?_, ths_chg h.ds hc (fun i hi => (h.f1 i hi).2.1), fun i hi => ?_, h.f2, h.box.chg hc (fun hf => (h.f1 _ hf).2.2 rfl), h.b0, h.below.trans (hc.below h.below.size (fun i hi => (h.f1 i hi).1))⟩⟩
  · rcases hf i hi with h1 | h1
    · exact h.ap i h1 hf2
    · have := h.m2.lt hf2
      omega
  · rcases hf i hi with h1 | h1
    · exact h.f1 i h1
    · exact ⟨Nat.le_trans h.below.size h1, h.ds.apart h1, fun e => by have := h.box.lt; omega⟩
end

/-- blocks that items' bytes lie in -/
def Ib (its : List It) (i : Nat) : Prop := ∃ g ∈ its, ∃ a, g.a = some a ∧ i = a.block
/-- bytes that can be changed, at each item -/
def U8s (w : World) (its : List It) : Prop := ∀ g ∈ its, ∀ i, i < g.b.length → ∃ (b x : Nat), g.a = some ⟨b, 0, none⟩ ∧ x < 256 ∧ w.cell? ⟨b, i, none⟩ = some (.int .u8 (x : Int)) ∧ w.frozen? ⟨b, i, none⟩ = false ∧ b < w.heap.size
theorem acc_u8s {w : World} {B n c : Nat} {A : Option Addr} {its : List It} (h : Acc w B (.slice A n c) its) : U8s w its := fun g hg i hi => by
  obtain ⟨_, _, h3, h4, _⟩ := h.ok g hg
  have hr := h3
  rcases h3.2 with ⟨_, h0⟩ | ⟨b, cap, cur, e, _⟩
  · omega
  · injection e with e
    rw [e] at hr
    have hca := hr.cellAt i (by omega)
    rw [show (Crc.u8s g.b)[i]? = some (.int .u8 (g.b[i] : Int)) by simp [Crc.u8s, List.getElem?_map, List.getElem?_eq_getElem hi]] at hca
    exact ⟨b, g.b[i], e, h4 _ (List.getElem_mem hi), hca, hr.frozenAt i, (gb_row hr (i := b) ⟨_, rfl, rfl⟩).2⟩
theorem U8s.keep {w w' : World} {its : List It} (h : U8s w its) (hb : Below w.heap.size w w') : U8s w' its := fun g hg i hi => by
  obtain ⟨b, x, e, hx, hc, hf, hl⟩ := h g hg i hi
  exact ⟨b, x, e, hx, (hb.cell (p := ⟨b, i, none⟩) hl).trans hc, (hb.frozen (p := ⟨b, i, none⟩) hl).trans hf, Nat.lt_of_lt_of_le hl hb.size⟩
/-- where a byte is stored -/
theorem U8s.set {w : World} {its : List It} (h : U8s w its) {b i y z : Nat} (hy : y < 256) (hz : w.cell? ⟨b, i, none⟩ = some (.int .u8 (z : Int))) : U8s (w.setCell ⟨b, i, none⟩ (.int .u8 (y : Int))) its := fun g hg j hj => by
  obtain ⟨b', x, e, hx, hc, hf, hl⟩ := h g hg j hj
  have hl' : b' < (w.setCell ⟨b, i, none⟩ (.int .u8 (y : Int))).heap.size := by simpa [World.setCell] using hl
  by_cases hne : (⟨b, i, none⟩ : Addr) = ⟨b', j, none⟩
  · injection hne with e1 e2
    subst e1 e2
    exact ⟨b, y, e, hy, World.cell?_setCell_same _ _ _ hz, (World.frozen?_setCell _ _ _ _).trans hf, hl'⟩
  · exact ⟨b', x, e, hx, by rw [World.cell?_setCell_other _ _ _ _ hne]; exact hc, (World.frozen?_setCell _ _ _ _).trans hf, hl'⟩
end Trk
end Go.Proofs.YtkhkcfbacnkcnaaGreatDoor
/- Law 13's TreeCopies. -/
namespace Go.Proofs.YtkhkcfbacnkcnaaGreatDoor
open Go.RowKit Go.MapKept
namespace Trk
open Tre (Nm Th It Its Tg Ths ths tv Apart Ac Acs FewA fewA doT allT)
open Pat (Txs)

set_option maxRecDepth 100000 in
set_option maxHeartbeats 4000000 in
theorem copies_law (w : World) (A0 : Option Addr) (n c0 : Nat) (acs : List Ac) (cut : Nat) (hI : Acs w A0 acs) (hn : acs.length = n) (hnc : n ≤ c0) (hcut : cut < 256) :
    Calls Tryz.prog 4 #[.slice A0 n c0, .int .u8 (cut : Int)] w fun e w' => e = .returned (.bool true) ∧ Below w.heap.size w w' := by
  have HI := Lib.hid hI
  have HN := Lib.hid hn
  have HNC := Lib.hid hnc
  have HL := Lib.hid (lives_any w)
  clear hI hn hnc
  go_enter Tryz.func4, Tryz.ntmps4
  go_wp2_with fail
  refine HL.out.mono ?_
  rintro e w1 ⟨rfl, hb1⟩
  have HB1 := Lib.hid hb1
  have hfw := Tre.few_any w1 A0 c0 acs (HI.out.keep hb1)
  rw [HN.out] at hfw
  have HFW := Lib.hid hfw
  clear hb1 hfw
  go_wp2_with fail
  refine HFW.out.mono ?_
  rintro e w2 ⟨rfl, hb2⟩
  have HB2 := Lib.hid (HB1.out.trans (hb2.mono HB1.out.size))
  clear hb2
  by_cases hf : FewA acs
  · rw [show fewA acs = true from decide_eq_true hf]
    have HFA := Lib.hid hf
    have hn40 : n ≤ 40 := by rw [← HN.out]; exact hf.2
    have HN4 := Lib.hid hn40
    have hnw : IntKind.i64.wrap ((n : Int) + 1) = (n : Int) + 1 := by rw [IntKind.wrap_i64]; omega
    have hne : (n : Int) + 1 ≠ 0 := by omega
    obtain ⟨k, hk⟩ : ∃ k, k = cut % (n + 1) := ⟨_, rfl⟩
    have hkn : k ≤ n := by rw [hk]; exact Nat.le_of_lt_succ (Nat.mod_lt _ (Nat.succ_pos n))
    have hkm : (cut : Int) % ((n : Int) + 1) = (k : Int) := by rw [hk]; exact (Int.natCast_emod cut (n + 1)).symm
    have hk0 : (0 : Int) ≤ (k : Int) := by omega
    have hk3 : (k : Int) ≤ (c0 : Int) := by have := HNC.out; omega
    have hk4 : (k : Int) ≤ (n : Int) := by omega
    obtain ⟨A1, hs1, ht1⟩ := acs_upto A0 n c0 k hkn HNC.out
    obtain ⟨A2, hs2, ht2⟩ := acs_from A0 n c0 k hkn HNC.out
    have HT1 := Lib.hid ht1
    have HT2 := Lib.hid ht2
    have HK := Lib.hid hkn
    clear hk
    have HS1 := Lib.hid hs1
    have HS2 := Lib.hid hs2
    clear hf ht1 ht2 hs1 hs2
    go_wp2_with fail
    refine (new_any w2).mono ?_
    rintro e w3 ⟨rfl, hm, hb3, hs3⟩
    obtain ⟨bt, hbt⟩ : ∃ bt, bt = w2.heap.size := ⟨_, rfl⟩
    have HS := Lib.hid (show Mem w3 0 [] (L0 bt) ∧ Below w.heap.size w w3 ∧ ∀ i, Fp [] (L0 bt) i → w.heap.size ≤ i from ⟨by rw [hbt]; exact hm, HB2.out.trans (hb3.mono HB2.out.size), fun i hi => by
      obtain ⟨p, v, _, hi⟩ := hi
      have : i = bt := by simpa [own, L0] using hi
      have := HB2.out.size
      omega⟩)
    clear hm hb3 hs3
    rw [← hbt]
    clear hbt
    go_upto_region 5 with fail
    rw [hkm]
    clear hkm hnw hne hkn
    go_wp2_with fail
    go_loopw [38] (fun ix wr => ∃ (j : Nat) (L : Nm → Nd), j ≤ k ∧ ix = .int .i64 (j : Int) ∧ Mem wr j (tA [] (acs.take j)) L ∧ (L []).b = bt ∧ Below w.heap.size w wr ∧ ∀ i, Fp (tA [] (acs.take j)) L i → w.heap.size ≤ i) (fun ix _ => k - (intOf ix).toNat)
    case atStart => exact ⟨0, L0 bt, Nat.zero_le _, rfl, HS.out.1, rfl, HS.out.2⟩
    case round =>
      obtain ⟨j, L, hj, rfl, hmem, hroot, hbel, hfp⟩ := hrel
      have HMEM := Lib.hid hmem
      have HROOT := Lib.hid hroot
      have HBEL := Lib.hid hbel
      have HFP := Lib.hid hfp
      have hwf0 : Wf (tA [] (acs.take j)) := wf_tA wf_nil (fun g hg => (HI.out.ok g (List.mem_of_mem_take hg)).2.2.2.1.byt)
      have hln0 := tA_len [] (acs.take j)
      rw [List.length_take, List.length_nil] at hln0
      have HWF := Lib.hid hwf0
      have HLN := Lib.hid (show (tA [] (acs.take j)).length ≤ 40 by have := HN4.out; have := HK.out; omega)
      clear hmem hroot hbel hfp hwf0 hln0 HS
      by_cases hlt : j < k
      · have hlti : j < acs.length := by rw [HN.out]; have := HK.out; omega
        have HTK := Lib.hid (tA_take [] acs hlti)
        generalize tA [] (acs.take j) = t at *
        obtain ⟨bi, oi, rfl, hbli, k0, k1, k2, k3, k4⟩ := (HI.out.keep HBEL.out).at' j hlti
        have hok := HI.out.ok _ (List.getElem_mem hlti)
        have hlit := HFA.out.1 _ (List.getElem_mem hlti)
        generalize acs[j] = q at *
        obtain ⟨kk, p, x, nn, ga, gc, bs⟩ := q
        simp only at k0 k1 k2 k3 k4
        obtain ⟨m, hm⟩ : ∃ m, m = bs.length := ⟨_, rfl⟩
        rw [← hm] at k4
        have HM := Lib.hid hm
        have HOK := Lib.hid hok
        have HLIT := Lib.hid (show p.size ≤ 300 ∧ m ≤ 500 from ⟨hlit.1, by rw [hm]; exact hlit.2.1⟩)
        have hj0 : (j : Int) < (k : Int) := by omega
        have hm0 : (0 : Int) ≤ (j : Int) := by omega
        clear hm hok hlit hlti
        obtain ⟨b1, hb1⟩ : ∃ b1, b1 = wr.heap.size := ⟨_, rfl⟩
        have hx1 := (Below.refl wr.heap.size wr).alloc (Nat.le_refl _) (.cells #[.int .u8 (kk : Int), .string p, .int .i64 x, .int .i64 nn, .slice ga m gc] 32)
        have HX := Lib.hid (show Below b1 wr (wr.alloc (.cells #[.int .u8 (kk : Int), .string p, .int .i64 x, .int .i64 nn, .slice ga m gc] 32)) from by rw [hb1]; exact hx1)
        have HA := Lib.hid (show Abx (wr.alloc (.cells #[.int .u8 (kk : Int), .string p, .int .i64 x, .int .i64 nn, .slice ga m gc] 32)) b1 kk p x nn ga m gc from by rw [hb1]; exact abx_new wr kk p x nn ga m gc _)
        have HM1 := Lib.hid (HMEM.out.keep hx1)
        have HB1S := Lib.hid (show w.heap.size ≤ b1 by rw [hb1]; exact HBEL.out.size)
        clear hx1
        go_upto_region 8 with fail
        rw [← hb1]
        generalize wr.alloc (.cells #[.int .u8 (kk : Int), .string p, .int .i64 x, .int .i64 nn, .slice ga m gc] 32) = w4 at *
        clear hb1 k0 k1 k2 k3 k4
        have HBL4 := Lib.hid (HBEL.out.trans (HX.out.mono HB1S.out))
        have HACT := Lib.hid (act_any w4 j bt kk t L p x nn m gc ga bs HM1.out HROOT.out HWF.out (by have := HLIT.out.1; omega) (by have := HN4.out; have := HK.out; omega) HM.out.symm (by have := HLIT.out.2; omega) (HOK.out.2.2.2.1.keep HBL4.out) (fun ad e hne hf => by
          obtain ⟨b', o', e', hlt', _⟩ := HOK.out.2.2.2.1.at' 0 (List.length_pos_iff.2 hne)
          have hf2 := HFP.out _ hf
          simp only at e'
          rw [e] at e'
          injection e' with e'
          rw [e'] at hf2
          simp only at hf2
          omega) HOK.out.2.2.2.2.2.1 HOK.out.2.2.2.2.2.2 (by have := HLN.out; omega))
        have HWF2 := Lib.hid (HWF.out.doT kk p x nn (bs := bs) HOK.out.2.2.2.1.byt)
        simp only at HTK
        generalize doT t kk p x nn (Crc.str bs) = r at *
        have hc0 := HA.out.c0
        have hc1 := HA.out.c1
        have hc2 := HA.out.c2
        have hc3 := HA.out.c3
        have hc4 := HA.out.c4
        go_wp2_with fail
        refine HACT.out.mono ?_
        rintro e w5 ⟨G3, g3, rfl, _, htr⟩
        obtain ⟨hch, L', hm', hr', hfp'⟩ := htr
        have HM5 := Lib.hid hm'
        have HR5 := Lib.hid (show (L' []).b = bt from hr'.trans HROOT.out)
        have HBL5 := Lib.hid (HBL4.out.trans (hch.below HBL4.out.size (fun i hi => HFP.out i hi)))
        have HFP5 := Lib.hid (show ∀ i, Fp r.1 L' i → w.heap.size ≤ i from fun i hi => (hfp' i hi).elim (HFP.out i) (fun h => Nat.le_trans HBL4.out.size h))
        have hn4 := HN4.out
        have hkn := HK.out
        clear hch hm' hr' hfp' hc0 hc1 hc2 hc3 hc4
        go_wp2
        exact ⟨⟨j + 1, L', by omega, by go_num, by rw [HTK.out]; exact HM5.out, HR5.out, HBL5.out, by rw [HTK.out]; exact HFP5.out⟩, by simp [intOf]; omega⟩
      · obtain rfl : j = k := by omega
        have HBY := Lib.hid (show ∀ g ∈ acs, Crc.Byt g.b from fun g hg => (HI.out.ok g hg).2.2.2.1.byt)
        generalize tA [] (acs.take j) = t at *
        have HCP := Lib.hid (copy_any wr j 100 bt t L HMEM.out HROOT.out HWF.out (by have := HLN.out; omega) (by decide))
        clear hlt
        go_wp2_with fail
        refine HCP.out.mono ?_
        rintro e w4 ⟨K, bc, rfl, hrc, hmc, hfc, hbc⟩
        have HRF := Lib.hid (ref_any w4 j bt t L (HMEM.out.keep hbc) HROOT.out HWF.out (by have := HLN.out; omega))
        have HMC := Lib.hid (And.intro hrc hmc)
        have HFC := Lib.hid hfc
        have HBC := Lib.hid hbc
        clear hrc hmc hfc hbc HCP
        go_wp2_with fail
        refine HRF.out.mono ?_
        rintro e w5 ⟨A, c, l, rfl, hth, hle, hb5, hap⟩
        have hb45 := HBC.out.trans (hb5.mono HBC.out.size)
        have hle2 := hle
        have HLE := Lib.hid hle
        generalize hl : l.length = q at *
        have HLL := Lib.hid hl
        obtain ⟨ba, hba⟩ : ∃ ba, ba = w5.heap.size := ⟨_, rfl⟩
        have hz6 := (Below.refl w5.heap.size w5).alloc (Nat.le_refl _) (.cells #[.slice A q c] 29)
        have h4s := HBC.out.size
        have h5s := hb5.size
        have HDU6 := Lib.hid (show Duo w (w5.alloc (.cells #[.slice A q c] 29)) j 100 bt bc ba (.slice A q c) t t L K A l from
          ⟨(HMEM.out.keep hb45).keep hz6, (HMC.out.2.keep hb5).keep hz6, HROOT.out, HMC.out.1, HWF.out, HWF.out, fun i hi hf => by have h1 := HMEM.out.lt hi; have h2 := HFC.out i hf; omega, hth.keep hz6,
            fun i hi => ⟨HFP.out i hi, hap i (Nat.lt_of_lt_of_le (HMEM.out.lt hi) h4s), by have := HMEM.out.lt hi; omega⟩,
            fun i hi => ⟨Nat.le_trans HBEL.out.size (HFC.out i hi), hap i (HMC.out.2.lt hi), by have := HMC.out.2.lt hi; omega⟩,
            by rw [hba]; exact wbx_new _ _ _, by rw [hba]; have := HBEL.out.size; omega, (HBEL.out.trans (hb45.mono HBEL.out.size)).alloc (by have := HBEL.out.size; omega) _⟩)
        clear hth hle hle2 hb5 hap hb45 HRF HMC HFC HBC HMEM HROOT HBEL HFP h4s h5s hl
        have HLW := Lib.hid (show ∀ W I ic its, Ths W A l → Its W I its → tells its = told (allT t) → Calls Tryz.prog 13 #[.slice I its.length ic, tv A q c] W fun e w' => e = .returned (.bool true) ∧ Below W.heap.size W w' from fun W I ic its h1 h2 h3 => Tre.lawSame_yes W I A ic c q its l HLL.out h1 h2 (by
          have h4 := congrArg List.length HLE.out
          rw [Tre.ths, List.length_map, HLL.out, show (allT t).length = t.length from Tre.sorted_len _ _] at h4
          have := HLN.out
          omega) (by rw [HLE.out]; exact tells_sm (by rw [allT_twice HWF.out]; exact h3)))
        clear hz6
        go_upto_region 12 with fail
        rw [← hba]
        generalize w5.alloc (.cells #[.slice A q c] 29) = w6 at *
        clear hba
        have HBA := Lib.hid HDU6.out.box
        have hca := HBA.out.c
        have hla := HBA.out.lt
        have HSM := Lib.hid ((Same_yes w6.drew 100 j bc bt t t K L (HDU6.out.m2.keep (Tre.below_drew (Below.refl _ _))) (HDU6.out.m1.keep (Tre.below_drew (Below.refl _ _))) HDU6.out.r2 HDU6.out.r1 HWF.out HWF.out (fun _ => rfl)).mono (fun e w' h => show e = .returned (.bool true) ∧ Below w6.heap.size w6 w' ∧ w'.cell? ⟨ba, 0, none⟩ = some (.slice A q c) from by
          have hb := Tre.below_drew h.2
          exact ⟨h.1, hb, (HBA.out.keep hb).c⟩))
        have HALL := Lib.hid (fun (W : World) (hb : Below w6.heap.size w6 W) => show Calls Tryz.prog 14 #[.pointer (some ⟨bc, 0, none⟩)] W (fun e w' => ∃ (A5 : Option Addr) (c5 : Nat) (its5 : List It), e = .returned (.slice A5 its5.length c5) ∧ w'.cell? ⟨ba, 0, none⟩ = some (.slice A q c) ∧ Calls Tryz.prog 13 #[.slice A5 its5.length c5, tv A q c] w' (fun e w6' => e = .returned (.bool true) ∧ w6'.cell? ⟨ba, 0, none⟩ = some (.slice A q c) ∧ Below w6.heap.size w6 w6')) from
          (all_any W 100 bc t K (HDU6.out.m2.keep hb) HDU6.out.r2 HWF.out (by have := HLN.out; omega)).mono (fun e w' h => by
            obtain ⟨A5, c5, its5, rfl, hI5, ht5, _, hb5⟩ := h
            have hb2 := hb.trans (hb5.mono hb.size)
            refine ⟨A5, c5, its5, rfl, (HBA.out.keep hb2).c, ?_⟩
            refine (HLW.out w' A5 c5 its5 (HDU6.out.ds.keep hb2) hI5 ht5).mono (fun e w6 h6 => ?_)
            have hb6 := hb2.trans (h6.2.mono hb2.size)
            exact ⟨h6.1, (HBA.out.keep hb6).c, hb6⟩))
        go_region_held3 (fun W' => W'.cell? ⟨ba, 0, none⟩ = some (.slice A q c)) (go_keep)
          (first
          | (go_at_call 20
             with_reducible refine HSM.out.mono ?_
             rintro e w10 ⟨rfl, hb10, hcl10⟩
             have hall10 := HALL.out w10 hb10
             clear hb10)
          | (go_at_call 14
             with_reducible refine Calls.mono (by assumption) ?_
             rintro e w11 ⟨A5, c5, its5, rfl, hcl11, hsm11⟩)
          | (go_at_call 13
             with_reducible refine Calls.mono (by assumption) ?_
             rintro e w12 ⟨rfl, hcl12, hb12⟩
             have HB12 := Lib.hid hb12
             clear hb12))
        have HDU12 := Lib.hid (HDU6.out.keep HB12.out)
        clear HDU6 HALL HSM HBA hall10 hsm11 hcl12 hca hla HB12
        have hs2 := HS2.out
        obtain ⟨n2, hn2⟩ : ∃ n2, n2 = n - j := ⟨_, rfl⟩
        obtain ⟨c2, hc2⟩ : ∃ c2, c2 = c0 - j := ⟨_, rfl⟩
        obtain ⟨r2, hr2⟩ : ∃ r2, r2 = acs.drop j := ⟨_, rfl⟩
        rw [← hn2, ← hc2] at hs2
        have HI2 := Lib.hid (show Acs w A2 r2 by rw [hr2]; exact HT2.out w acs HN.out HI.out)
        have HN2 := Lib.hid (show r2.length = n2 by rw [hr2, hn2, List.length_drop, HN.out])
        have HF2 := Lib.hid (show ∀ g ∈ r2, g.p.size ≤ 300 ∧ g.b.length ≤ 500 from fun g hg => by have := HFA.out.1 g (List.mem_of_mem_drop (by rw [← hr2]; exact hg)); exact ⟨this.1, this.2.1⟩)
        have HBY2 := Lib.hid (show ∀ g ∈ r2, Crc.Byt g.b from fun g hg => HBY.out g (List.mem_of_mem_drop (by rw [← hr2]; exact hg)))
        have HN24 := Lib.hid (show n2 ≤ 40 ∧ j ≤ 40 by have := HN4.out; have := HK.out; omega)
        clear hn2 hc2 hr2 HS2 HS1 HT1 HT2 hk3 hk4
        go_wp2_with fail
        go_loopw [69] (fun ix wr => ∃ (i : Nat) (L' : Nm → Nd), i ≤ n2 ∧ ix = .int .i64 (i : Int) ∧ Duo w wr (j + i) 100 bt bc ba (.slice A q c) (tA t (r2.take i)) t L' K A l) (fun ix _ => n2 - (intOf ix).toNat)
        case atStart => exact ⟨0, L, Nat.zero_le _, rfl, HDU12.out⟩
        case round =>
          obtain ⟨i, L', hi, rfl, hdu⟩ := hrel
          have HDU := Lib.hid hdu
          have hln0 := tA_len t (r2.take i)
          rw [List.length_take] at hln0
          have HLN2 := Lib.hid (show (tA t (r2.take i)).length ≤ 80 by have := HN24.out; have := HLN.out; omega)
          clear hdu hln0 HDU12
          by_cases hlt : i < n2
          · have hlti : i < r2.length := by rw [HN2.out]; exact hlt
            have HTK := Lib.hid (tA_take t r2 hlti)
            generalize tA t (r2.take i) = u at *
            obtain ⟨bi, oi, rfl, hbli, k0, k1, k2, k3, k4⟩ := (HI2.out.keep HDU.out.below).at' i hlti
            have hok := HI2.out.ok _ (List.getElem_mem hlti)
            have hlit := HF2.out _ (List.getElem_mem hlti)
            generalize r2[i] = g at *
            obtain ⟨kk, p, x, nn, ga, gc, bs⟩ := g
            simp only at k0 k1 k2 k3 k4
            obtain ⟨m, hm⟩ : ∃ m, m = bs.length := ⟨_, rfl⟩
            rw [← hm] at k4
            have HM := Lib.hid hm
            have HOK := Lib.hid hok
            have HLIT := Lib.hid (show p.size ≤ 300 ∧ m ≤ 500 from ⟨hlit.1, by rw [hm]; exact hlit.2⟩)
            have hj0 : (i : Int) < (n2 : Int) := by omega
            have hm0 : (0 : Int) ≤ (i : Int) := by omega
            clear hm hok hlit hlti
            obtain ⟨b1, hb1⟩ : ∃ b1, b1 = wr.heap.size := ⟨_, rfl⟩
            have hx1 := (Below.refl wr.heap.size wr).alloc (Nat.le_refl _) (.cells #[.int .u8 (kk : Int), .string p, .int .i64 x, .int .i64 nn, .slice ga m gc] 32)
            have HA := Lib.hid (show Abx (wr.alloc (.cells #[.int .u8 (kk : Int), .string p, .int .i64 x, .int .i64 nn, .slice ga m gc] 32)) b1 kk p x nn ga m gc from by rw [hb1]; exact abx_new wr kk p x nn ga m gc _)
            have HDU1 := Lib.hid (HDU.out.keep hx1)
            clear hx1
            go_upto_region 17 with fail
            rw [← hb1]
            generalize wr.alloc (.cells #[.int .u8 (kk : Int), .string p, .int .i64 x, .int .i64 nn, .slice ga m gc] 32) = w4 at *
            clear hb1 k0 k1 k2 k3 k4
            have HACT := Lib.hid (act_any w4 (j + i) bt kk u L' p x nn m gc ga bs HDU1.out.m1 HDU1.out.r1 HDU1.out.w1 (by have := HLIT.out.1; omega) (by have := HN24.out; omega) HM.out.symm (by have := HLIT.out.2; omega) (HOK.out.2.2.2.1.keep HDU1.out.below) (fun ad e hne hf => by
              obtain ⟨b', o', e', hlt', _⟩ := HOK.out.2.2.2.1.at' 0 (List.length_pos_iff.2 hne)
              have hf2 := (HDU1.out.f1 _ hf).1
              simp only at e'
              rw [e] at e'
              injection e' with e'
              rw [e'] at hf2
              simp only at hf2
              omega) HOK.out.2.2.2.2.2.1 HOK.out.2.2.2.2.2.2 (by have := HLN2.out; omega))
            have HWF2 := Lib.hid (HDU1.out.w1.doT kk p x nn (bs := bs) HOK.out.2.2.2.1.byt)
            simp only at HTK
            generalize doT u kk p x nn (Crc.str bs) = r at *
            have hc0 := HA.out.c0
            have hc1 := HA.out.c1
            have hc2 := HA.out.c2
            have hc3 := HA.out.c3
            have hc4 := HA.out.c4
            go_wp2_with fail
            refine HACT.out.mono ?_
            rintro e w5 ⟨G3, g3, rfl, _, htr⟩
            obtain ⟨L2, hdu2⟩ := HDU1.out.act HWF2.out htr
            have HDU5 := Lib.hid hdu2
            have hn4 := HN24.out.1
            clear htr hdu2 hc0 hc1 hc2 hc3 hc4
            go_wp2
            exact ⟨⟨i + 1, L2, by omega, by go_num, by rw [HTK.out]; exact HDU5.out⟩, by simp [intOf]; omega⟩
          · obtain rfl : n2 = i := by omega
            rw [List.take_of_length_le (by have := HN2.out; omega)] at HDU HLN2
            clear hlt
            have hwfu := HDU.out.w1
            generalize htu : tA t r2 = u at *
            have HTU := Lib.hid htu
            have HALD := Lib.hid ((all_any wr.drew 100 bc t K (HDU.out.m2.keep (Tre.below_drew (Below.refl _ _))) HDU.out.r2 HDU.out.w2 (by have := HLN.out; omega)).mono (fun e w' h => show ∃ (A5 : Option Addr) (c5 : Nat) (its5 : List It), e = .returned (.slice A5 its5.length c5) ∧ w'.cell? ⟨ba, 0, none⟩ = some (.slice A q c) ∧ Calls Tryz.prog 13 #[.slice A5 its5.length c5, tv A q c] w' (fun e w6' => e = .returned (.bool true) ∧ w6'.cell? ⟨ba, 0, none⟩ = some (.slice A q c) ∧ Below wr.heap.size wr w6') from by
              obtain ⟨A5, c5, its5, rfl, hI5, ht5, _, hb5⟩ := h
              have hb2 := Tre.below_drew hb5
              refine ⟨A5, c5, its5, rfl, (HDU.out.box.keep hb2).c, ?_⟩
              refine (HLW.out w' A5 c5 its5 (HDU.out.ds.keep hb2) hI5 ht5).mono (fun e w6 h6 => ?_)
              have hb6 := hb2.trans (h6.2.mono hb2.size)
              exact ⟨h6.1, (HDU.out.box.keep hb6).c, hb6⟩))
            have hca := HDU.out.box.c
            have hla := HDU.out.box.lt
            clear hwfu htu
            go_wp2_with fail
            go_region_held3 (fun W' => W'.cell? ⟨ba, 0, none⟩ = some (.slice A q c)) (go_keep)
              (first
              | (go_at_call 14
                 with_reducible refine HALD.out.mono ?_
                 rintro e w11 ⟨A5, c5, its5, rfl, hcl11, hsm11⟩)
              | (go_at_call 13
                 with_reducible refine Calls.mono (by assumption) ?_
                 rintro e w12 ⟨rfl, hcl12, hb12⟩
                 have HB12 := Lib.hid hb12
                 clear hb12))
            have HDU2 := Lib.hid (HDU.out.keep HB12.out)
            clear HDU HALD hsm11 hcl12 hca hla HB12
            have HAL := Lib.hid (all_any w12 100 bc t K HDU2.out.m2 HDU2.out.r2 HDU2.out.w2 (by have := HLN.out; omega))
            go_wp2_with fail
            refine HAL.out.mono ?_
            rintro e w13 ⟨I, ic, its, rfl, hI, htl, hacc, hb13⟩
            have hq9 : its.length ≤ 40 := by
              have h1 := tells_len htl
              rw [show (allT t).length = t.length from Tre.sorted_len _ _] at h1
              have := HLN.out
              omega
            have HMB := Lib.hid (show ∀ g ∈ its, g.b.length ≤ 268435456 from fun g hg => (hacc.ok g hg).2.1)
            have HIB := Lib.hid (show ∀ i, Ib its i → ¬ Fp u L' i ∧ ¬ Fp t K i ∧ Apart i A l ∧ i ≠ ba ∧ w.heap.size ≤ i from fun i hi => by
              obtain ⟨g, hg, a, e, rfl⟩ := hi
              exact HDU2.out.past (gb_row (hacc.ok g hg).2.2.1 ⟨a, e, rfl⟩).1)
            have HIL := Lib.hid (show ∀ i, Ib its i → i < w13.heap.size ∧ ∀ a, I = some a → a.block ≠ i from fun i hi => by
              obtain ⟨g, hg, a, e, rfl⟩ := hi
              refine ⟨(gb_row (hacc.ok g hg).2.2.1 ⟨a, e, rfl⟩).2, fun b eb e2 => (hacc.ok g hg).2.2.2.2 a e ?_⟩
              subst eb
              simp [Value.ownBlock, e2])
            have HU := Lib.hid (acc_u8s hacc)
            have HI13 := Lib.hid hI
            have HDU13 := Lib.hid (HDU2.out.keep hb13)
            have hb9 := hacc.row.1
            clear hI hacc hb13 HDU2 HAL htl
            generalize hql : its.length = q3 at *
            have HQL := Lib.hid hql
            clear hql
            go_wp2_with fail
            go_loopw [85] (fun ix wy => ∃ (j1 : Nat), j1 ≤ q3 ∧ ix = .int .i64 (j1 : Int) ∧ Chg (Ib its) w13 wy ∧ U8s wy its) (fun ix _ => q3 - (intOf ix).toNat)
            case atStart => exact ⟨0, Nat.zero_le _, rfl, Chg.refl _ _, HU.out⟩
            case round =>
              obtain ⟨j1, hj1, rfl, hch, hu⟩ := hrel
              have HCH := Lib.hid hch
              have HUU := Lib.hid hu
              clear hch hu
              by_cases hlt : j1 < q3
              · have hlti : j1 < its.length := by rw [HQL.out]; exact hlt
                obtain ⟨bi, oi, rfl, hbli, k0, k1, k2⟩ := HI13.out.at' j1 hlti
                have hxb := HCH.out.block bi hbli (fun hf => (HIL.out _ hf).2 _ rfl rfl)
                have hbly := Nat.lt_of_lt_of_le hbli HCH.out.size
                have hxk : ∀ o v, w13.cell? ⟨bi, o, none⟩ = some v → wr.cell? ⟨bi, o, none⟩ = some v := fun o v hv => (World.cell?_of_block (w := w13) (a := ⟨bi, o, none⟩) hxb).trans hv
                replace k0 := hxk _ _ k0
                replace k1 := hxk _ _ k1
                replace k2 := hxk _ _ k2
                have HMM := Lib.hid (show its[j1] ∈ its from List.getElem_mem hlti)
                have hmb := HMB.out _ (List.getElem_mem hlti)
                generalize its[j1] = g at *
                obtain ⟨p, d, ga, gc, bs⟩ := g
                simp only at k0 k1 k2
                obtain ⟨m, hm⟩ : ∃ m, m = bs.length := ⟨_, rfl⟩
                simp only at hmb
                rw [← hm] at k2 hmb
                have HM := Lib.hid hm
                have hj0 : (j1 : Int) < (q3 : Int) := by omega
                have hm0 : (0 : Int) ≤ (j1 : Int) := by omega
                clear hm hlti hxb hxk
                obtain ⟨b5, hb5⟩ : ∃ b5, b5 = wr.heap.size := ⟨_, rfl⟩
                have hx1 := (Below.refl wr.heap.size wr).alloc (Nat.le_refl _) (.cells #[.string p, .bool d, .slice ga m gc] 51)
                have HCH1 := Lib.hid (HCH.out.trans (Chg.of_below hx1) (fun i hi => .inl hi))
                have HU1 := Lib.hid (HUU.out.keep hx1)
                have HC5 := Lib.hid (show (wr.alloc (.cells #[.string p, .bool d, .slice ga m gc] 51)).cell? ⟨b5, 2, none⟩ = some (.slice ga m gc) ∧ b5 < (wr.alloc (.cells #[.string p, .bool d, .slice ga m gc] 51)).heap.size from by
                  rw [hb5]
                  exact ⟨Crc.alloc_cell wr _ _ 2, by simp⟩)
                have HB5 := Lib.hid (show w13.heap.size ≤ b5 by rw [hb5]; exact HCH.out.size)
                clear hx1
                go_upto_region 24 with fail
                rw [← hb5]
                generalize wr.alloc (.cells #[.string p, .bool d, .slice ga m gc] 51) = w14 at *
                clear hb5 k0 k1 k2 hbly
                have hc2 := HC5.out.1
                go_wp2_with fail
                clear hc2
                go_loopw [92] (fun ix wx => ∃ (i1 : Nat), i1 ≤ m ∧ ix = .int .i64 (i1 : Int) ∧ Chg (Ib its) w13 wx ∧ U8s wx its ∧ wx.cell? ⟨b5, 2, none⟩ = some (.slice ga m gc) ∧ b5 < wx.heap.size) (fun ix _ => m - (intOf ix).toNat)
                case atStart => exact ⟨0, Nat.zero_le _, rfl, HCH1.out, HU1.out, HC5.out⟩
                case round =>
                  obtain ⟨i1, hi1, rfl, hch, hu, hcc, hll⟩ := hrel
                  have HCHX := Lib.hid hch
                  have HUX := Lib.hid hu
                  clear hch hu
                  by_cases hlti : i1 < m
                  · obtain ⟨bd, xx, rfl, hx, hca, hfa, hla⟩ := HUX.out _ HMM.out i1 (by have := HM.out; simp only; omega)
                    obtain ⟨y, hy, hw⟩ := u8_plus xx hx
                    have hib : Ib its bd := ⟨_, HMM.out, _, rfl, rfl⟩
                    have hne : bd ≠ b5 := by have := (HIL.out _ hib).1; have := HB5.out; omega
                    have HCH2 := Lib.hid (HCHX.out.trans (chg_set wr bd i1 (.int .u8 (y : Int))) (fun i hi => .inl (by rw [hi]; exact hib)))
                    have HU2 := Lib.hid (HUX.out.set (b := bd) (i := i1) hy hca)
                    have HC2 := Lib.hid (show (wr.setCell ⟨bd, i1, none⟩ (.int .u8 (y : Int))).cell? ⟨b5, 2, none⟩ = some (.slice (some ⟨bd, 0, none⟩) m gc) ∧ b5 < (wr.setCell ⟨bd, i1, none⟩ (.int .u8 (y : Int))).heap.size from ⟨by
                      rw [World.cell?_setCell_other _ _ _ _ (fun e => by injection e with e; exact hne e)]
                      exact hcc, by simpa [World.setCell] using hll⟩)
                    have hi0 : (0 : Int) ≤ (i1 : Int) := by omega
                    have hi2 : (i1 : Int) < (m : Int) := by omega
                    clear hy hx hib hne
                    go_wp2
                    exact ⟨⟨i1 + 1, by omega, by go_num, HCH2.out, HU2.out, HC2.out⟩, by simp [intOf]; omega⟩
                  · obtain rfl : i1 = m := by omega
                    go_wp2
                    exact ⟨⟨j1 + 1, by omega, by go_num, HCHX.out, HUX.out⟩, by simp [intOf]; omega⟩
              · obtain rfl : j1 = q3 := by omega
                have HDU14 := Lib.hid ((HDU13.out.off HCH.out HIB.out).swap)
                clear hlt HDU13
                go_wp2_with fail
                go_loopw [108] (fun ix wr => ∃ (i : Nat) (K' : Nm → Nd), i ≤ n2 ∧ ix = .int .i64 (i : Int) ∧ Duo w wr (100 + i) (j + n2) bc bt ba (.slice A q c) (tA t (r2.take i)) u K' L' A l) (fun ix _ => n2 - (intOf ix).toNat)
                case atStart => exact ⟨0, K, Nat.zero_le _, rfl, HDU14.out⟩
                case round =>
                  obtain ⟨i, K', hi, rfl, hdu⟩ := hrel
                  have HDU := Lib.hid hdu
                  have hln0 := tA_len t (r2.take i)
                  rw [List.length_take] at hln0
                  have HLN2 := Lib.hid (show (tA t (r2.take i)).length ≤ 80 by have := HN24.out; have := HLN.out; omega)
                  clear hdu hln0 HDU14
                  by_cases hlt : i < n2
                  · have hlti : i < r2.length := by rw [HN2.out]; exact hlt
                    have HTK := Lib.hid (tA_take t r2 hlti)
                    generalize tA t (r2.take i) = u2 at *
                    obtain ⟨bi, oi, rfl, hbli, k0, k1, k2, k3, k4⟩ := (HI2.out.keep HDU.out.below).at' i hlti
                    have hok := HI2.out.ok _ (List.getElem_mem hlti)
                    have hlit := HF2.out _ (List.getElem_mem hlti)
                    generalize r2[i] = g at *
                    obtain ⟨kk, p, x, nn, ga, gc, bs⟩ := g
                    simp only at k0 k1 k2 k3 k4
                    obtain ⟨m, hm⟩ : ∃ m, m = bs.length := ⟨_, rfl⟩
                    rw [← hm] at k4
                    have HM := Lib.hid hm
                    have HOK := Lib.hid hok
                    have HLIT := Lib.hid (show p.size ≤ 300 ∧ m ≤ 500 from ⟨hlit.1, by rw [hm]; exact hlit.2⟩)
                    have hj0 : (i : Int) < (n2 : Int) := by omega
                    have hm0 : (0 : Int) ≤ (i : Int) := by omega
                    clear hm hok hlit hlti
                    obtain ⟨b1, hb1⟩ : ∃ b1, b1 = wr.heap.size := ⟨_, rfl⟩
                    have hx1 := (Below.refl wr.heap.size wr).alloc (Nat.le_refl _) (.cells #[.int .u8 (kk : Int), .string p, .int .i64 x, .int .i64 nn, .slice ga m gc] 32)
                    have HA := Lib.hid (show Abx (wr.alloc (.cells #[.int .u8 (kk : Int), .string p, .int .i64 x, .int .i64 nn, .slice ga m gc] 32)) b1 kk p x nn ga m gc from by rw [hb1]; exact abx_new wr kk p x nn ga m gc _)
                    have HDU1 := Lib.hid (HDU.out.keep hx1)
                    clear hx1
                    go_upto_region 33 with fail
                    rw [← hb1]
                    generalize wr.alloc (.cells #[.int .u8 (kk : Int), .string p, .int .i64 x, .int .i64 nn, .slice ga m gc] 32) = w4 at *
                    clear hb1 k0 k1 k2 k3 k4
                    have HACT := Lib.hid (act_any w4 (100 + i) bc kk u2 K' p x nn m gc ga bs HDU1.out.m1 HDU1.out.r1 HDU1.out.w1 (by have := HLIT.out.1; omega) (by have := HN24.out; omega) HM.out.symm (by have := HLIT.out.2; omega) (HOK.out.2.2.2.1.keep HDU1.out.below) (fun ad e hne hf => by
                      obtain ⟨b', o', e', hlt', _⟩ := HOK.out.2.2.2.1.at' 0 (List.length_pos_iff.2 hne)
                      have hf2 := (HDU1.out.f1 _ hf).1
                      simp only at e'
                      rw [e] at e'
                      injection e' with e'
                      rw [e'] at hf2
                      simp only at hf2
                      omega) HOK.out.2.2.2.2.2.1 HOK.out.2.2.2.2.2.2 (by have := HLN2.out; omega))
                    have HWF2 := Lib.hid (HDU1.out.w1.doT kk p x nn (bs := bs) HOK.out.2.2.2.1.byt)
                    simp only at HTK
                    generalize doT u2 kk p x nn (Crc.str bs) = r at *
                    have hc0 := HA.out.c0
                    have hc1 := HA.out.c1
                    have hc2 := HA.out.c2
                    have hc3 := HA.out.c3
                    have hc4 := HA.out.c4
                    go_wp2_with fail
                    refine HACT.out.mono ?_
                    rintro e w5 ⟨G3, g3, rfl, _, htr⟩
                    obtain ⟨K2, hdu2⟩ := HDU1.out.act HWF2.out htr
                    have HDU5 := Lib.hid hdu2
                    have hn4 := HN24.out.1
                    clear htr hdu2 hc0 hc1 hc2 hc3 hc4
                    go_wp2
                    exact ⟨⟨i + 1, K2, by omega, by go_num, by rw [HTK.out]; exact HDU5.out⟩, by simp [intOf]; omega⟩
                  · obtain rfl : n2 = i := by omega
                    rw [List.take_of_length_le (by have := HN2.out; omega), HTU.out] at HDU HLN2
                    clear hlt
                    have HSM := Lib.hid (Same_yes wr (100 + n2) (j + n2) bc bt u u K' L' HDU.out.m1 HDU.out.m2 HDU.out.r1 HDU.out.r2 HDU.out.w1 HDU.out.w2 (fun _ => rfl))
                    have HBZ := Lib.hid HDU.out.below
                    go_wp2_with fail
                    refine HSM.out.mono ?_
                    rintro e w15 ⟨rfl, hb15⟩
                    have HB15 := Lib.hid (HBZ.out.trans (hb15.mono HBZ.out.size))
                    have HS1 := Lib.hid (Same_nil w15)
                    have HS2 := Lib.hid (Same_left w15 ⟨bt, 0, none⟩)
                    have HS3 := Lib.hid (Same_right w15 ⟨bt, 0, none⟩)
                    clear hb15
                    go_wp2_with fail
                    refine HS1.out.mono ?_
                    rintro e w16 ⟨rfl, rfl⟩
                    go_wp2_with fail
                    refine HS2.out.mono ?_
                    rintro e w17 ⟨rfl, rfl⟩
                    go_wp2_with fail
                    refine HS3.out.mono ?_
                    rintro e w18 ⟨rfl, rfl⟩
                    go_wp2
                    go_ret
                    exact ⟨rfl, HB15.out⟩
  · rw [show fewA acs = false from decide_eq_false hf]
    go_wp2_with fail
    refine (lives_any w2).mono ?_
    rintro e w3 ⟨rfl, hb3⟩
    have HB3 := Lib.hid (HB2.out.trans (hb3.mono HB2.out.size))
    clear hb3
    go_wp2
    go_ret
    exact ⟨rfl, HB3.out⟩
end Trk
end Go.Proofs.YtkhkcfbacnkcnaaGreatDoor
/- The laws' arguments, as they are read, opened to cells: acts. -/
namespace Go.Proofs.YtkhkcfbacnkcnaaGreatDoor
open Go.RowKit Go.MapKept Go.ChangeShapes Go.WideShapes Go.ChangeAt Go.Deep
namespace Trk
open Tre (Ac Acs)
section
variable {H : Type} {enc : TypeId × Value → H} {W : World} {fuel : Nat} {sp : Nat → Bool} {held : Bool}
theorem cells_act : Tryz.prog.cellsOf 32 = 5 := by kernel_rfl
def actOk (W : World) (g : Ac) : Prop := g.k < 256 ∧ g.p.size ≤ 9223372036854775807 ∧ g.b.length ≤ g.c ∧ Crc.Bts W g.a g.b ∧ (g.a = none → g.c = 0) ∧ g.x ≤ 9223372036854775807 ∧ g.n ≤ 9223372036854775807
set_option maxRecDepth 100000 in
/-- an act's five cells -/
theorem open_act {cs : List Value} {x : DataW H × List MemPlace} (h : DataW.trod enc Tryz.prog W 0 sp held fuel 32 cs = some x) :
    ∃ g : Ac, cs = [.int .u8 (g.k : Int), .string g.p, .int .i64 g.x, .int .i64 g.n, .slice g.a g.b.length g.c] ∧ actOk W g := by
  obtain ⟨ys, n, _, _, hlen, hyl, hf⟩ := DataW.trod_struct Tryz.underlying32 h
  rw [cells_act] at hlen
  match cs, hlen with
  | [c0, c1, c2, c3, c4], _ =>
    have g0 : DataW.trod enc Tryz.prog W 0 sp held n 5 [c0] = ys[0]? := hf 0 _ rfl
    have g1 : DataW.trod enc Tryz.prog W 0 sp held n 9 [c1] = ys[1]? := hf 1 _ rfl
    have g2 : DataW.trod enc Tryz.prog W 0 sp held n 3 [c2] = ys[2]? := hf 2 _ rfl
    have g3 : DataW.trod enc Tryz.prog W 0 sp held n 3 [c3] = ys[3]? := hf 3 _ rfl
    have g4 : DataW.trod enc Tryz.prog W 0 sp held n 30 [c4] = ys[4]? := hf 4 _ rfl
    have hy : ys.length = 5 := hyl
    rw [List.getElem?_eq_getElem (by omega)] at g0 g1 g2 g3 g4
    obtain ⟨k, e0, _, w0⟩ := DataW.trod_int Tryz.underlying5 g0
    obtain ⟨s, e1, _, w1⟩ := DataW.trod_string Tryz.underlying9 g1
    obtain ⟨a, e2, _, w2⟩ := DataW.trod_int Tryz.underlying3 g2
    obtain ⟨b, e3, _, w3⟩ := DataW.trod_int Tryz.underlying3 g3
    obtain ⟨A, l, c, e4, h1, h2, h3⟩ := open_bytes0 g4
    simp at e0 e1 e2 e3
    subst e0 e1 e2 e3 e4
    have b0 := bounds_u8 w0
    have b2 := bounds_i64 w2
    have b3 := bounds_i64 w3
    obtain ⟨q, rfl⟩ := Int.eq_ofNat_of_zero_le b0.1
    exact ⟨⟨q, s, a, b, A, c, l⟩, rfl, by show q < 256; omega, by unfold maxLen at w1; show s.size ≤ _; omega, h1, h2, h3, by show a ≤ _; omega, by show b ≤ _; omega⟩

set_option maxRecDepth 100000 in
theorem open_acts {v : Value} {x : DataW H × List MemPlace} (h : DataW.trod enc Tryz.prog W 0 sp held fuel 22 [v] = some x) : ∃ A l c, v = .slice A l.length c ∧ Acs W A l := by
  rcases Go.Deep.open_slice Tryz.underlying22 h with ⟨hcs, _⟩ | ⟨a, len, cap, m, n, D, Pl, hcs, _, hl, hm, hmm, hx, hi⟩
  · simp at hcs
    exact ⟨none, [], 0, hcs, by simp, fun f hf => by simp at hf, fun j hj => absurd hj (by simp)⟩
  · simp at hcs
    have hlen : len ≤ 9223372036854775807 := by unfold maxLen at hm; omega
    have hjm : ∀ i, i < len → i < m := fun i hi => by rw [hmm]; split <;> omega
    have one : ∀ i, ∃ g : Ac, i < len → ((W.cell? (a.add (i * 5)) = some (.int .u8 (g.k : Int)) ∧ W.cell? ((a.add (i * 5)).add 1) = some (.string g.p) ∧ W.cell? ((a.add (i * 5)).add 2) = some (.int .i64 g.x) ∧ W.cell? ((a.add (i * 5)).add 3) = some (.int .i64 g.n) ∧ W.cell? ((a.add (i * 5)).add 4) = some (.slice g.a g.b.length g.c)) ∧ actOk W g) := fun i => by
      by_cases hil : i < len
      · obtain ⟨cs', hc, ht⟩ := hi i (hjm i hil)
        rw [cells_act] at hc
        obtain ⟨f, rfl, h1⟩ := open_act ht
        obtain ⟨_, _, hat⟩ := World.cells?_some hc
        have g0 := hat 0 (by omega)
        have g1 := hat 1 (by omega)
        have g2 := hat 2 (by omega)
        have g3 := hat 3 (by omega)
        have g4 := hat 4 (by omega)
        simp only [List.getElem?_cons_zero, List.getElem?_cons_succ] at g0 g1 g2 g3 g4
        refine ⟨f, fun _ => ⟨⟨?_, g1, g2, g3, g4⟩, h1⟩⟩
        simpa [Addr.add] using g0
      · exact ⟨⟨0, ⟨#[]⟩, 0, 0, none, 0, []⟩, fun h => absurd h hil⟩
    obtain ⟨f, hf⟩ := Classical.skolem.1 one
    have hget : ∀ j (hj : j < ((List.range len).map f).length), ((List.range len).map f)[j] = f j := fun j hj => by rw [List.getElem_map, List.getElem_range]
    refine ⟨some a, (List.range len).map f, cap, by rw [List.length_map, List.length_range]; exact hcs, by rw [List.length_map, List.length_range]; exact hlen, fun g hg => ?_, fun j hj => ?_⟩
    · obtain ⟨i, hi, rfl⟩ := List.mem_map.1 hg
      exact (hf i (List.mem_range.1 hi)).2
    · rw [hget j hj]
      rw [List.length_map, List.length_range] at hj
      have hc0 := (hf 0 (by omega)).1.1
      obtain ⟨b, o, spot⟩ := a
      have hspot : spot = none := by simpa [Addr.add] using World.cell?_spot hc0
      subst hspot
      obtain ⟨g0, g1, g2, g3, g4⟩ := (hf j hj).1
      simp only [Go.WideShapes.add_plain] at g0 g1 g2 g3 g4
      exact ⟨b, o, rfl, Crc.cell_lt g0, g0, g1, g2, g3, g4⟩
end
end Trk
end Go.Proofs.YtkhkcfbacnkcnaaGreatDoor
