/- Texts laid together: ClmRef, ClmSame, ClmScansLaw. -/
import Derived.Test.YtilolepbfmcbgaaGreatDoorKs1
import Derived.Test.YtilolepbfmcbgaaGreatDoorKr9
import Derived.Test.YtilolepbfmcbgaaGreatDoorKr6
import Derived.IntWalk
import Derived.Test.YtilolepbfmcbgaaGreatDoorKr10
import Derived.Test.YtilolepbfmcbgaaGreatDoorKa1
import Derived.Test.YtilolepbfmcbgaaGreatDoorKa2
import Derived.Test.YtilolepbfmcbgaaGreatDoorKa3
import Derived.Test.YtilolepbfmcbgaaGreatDoorKr1
import Derived.Test.YtilolepbfmcbgaaGreatDoorKr2
import Derived.Test.YtilolepbfmcbgaaGreatDoorKr3
import Derived.Test.YtilolepbfmcbgaaGreatDoorKr4
import Derived.Test.YtilolepbfmcbgaaGreatDoorKr5
import Derived.Test.YtilolepbfmcbgaaGreatDoorKr7
import Derived.Test.YtilolepbfmcbgaaGreatDoorKr8
import Derived.Test.YtilolepbfmcbgaaGreatDoorKt1
/- The document's Scan. -/
namespace Go.Proofs.YtilolepbfmcbgaaGreatDoor
open Go.RowKit Go.MapKept
namespace Clm
open Chn (Pt New Prt slots slots_len Mays tot blk blk_len own_keep3 rd pat fw RrN rread_new rblocks_new)
open Vol (Hb hb_new hb_grown hb_apart dv Pl rdw)
open Pack (Nts i64s int_info)
open Lin (take_yes take_no)

theorem rnode_info : (Tryz.prog.info? 95).map (fun i => (i.zero, i.size, i.bytes)) = some (some (.agg #[.int .i64 0, .int .i64 0, .int .i64 0]), 3, 24) := by kernel_rfl
theorem rchain_info : (Tryz.prog.info? 100).map (fun i => (i.zero, i.size, i.bytes)) = some (some (.agg #[.slice none 0 0, .slice none 0 0]), 2, 48) := by kernel_rfl
theorem row_slice_of {B n s : Nat} {W : World} {e : TypeId} {v : Value} {xs : List Value} (h : W.ownsRow B e s v n xs) : ∃ G c, v = .slice G n c := by
  rcases h.2 with ⟨e, h0⟩ | ⟨g, cap, cur, e, _⟩
  · exact ⟨none, 0, by rw [e, h0]⟩
  · exact ⟨_, _, e⟩
theorem few_blk {l : List Pt} (h : Mays l) (hl : l.length ≤ 65534) : (blk l).length ≤ 5000000000 := by
  have := Chn.tot_le h l.length
  rw [List.take_length, ← blk_len] at this
  omega
section
variable {w : World} {n m s sl' bm bk E g gc : Nat} {W : List Nat}
set_option maxHeartbeats 4000000 in
set_option maxRecDepth 100000 in
theorem rscan_any (hpl : Pl n m s sl' bm bk E) (hW : Pack.Wds w (some ⟨g, 0, none⟩) W) (hWE : W.length = E) (hgc : E ≤ gc) :
    Calls Tryz.prog 10 #[.agg (dv n m s sl' bm bk E (.slice (some ⟨g, 0, none⟩) E gc))] w (RsTo W n m s w) := by
  have hn20 := hpl.n20
  have hm20 := hpl.m20
  have hs2 := hpl.s2
  have hat := hpl.at
  have HIN := Lib.hid (fun w' (hb : Below w.heap.size w w') (i : Nat) (hi : i < m) => Vol.rinode_yes (n := n) (m := m) (s := s) (sl := sl') (bm := bm) (bk := bk) w' g gc (hW.keep hb) hWE hgc i hi (by omega) (by omega))
  have hrr := fun w' (hb : Below w.heap.size w w') (hd : Int) => rread_new w' (gc := gc) hpl (hW.keep hb) hWE hd
  rw [hat.1] at hrr
  have HRR := Lib.hid (show ∀ w', Below w.heap.size w w' → ∀ hd : Int, Calls Tryz.prog 41 #[.agg (dv n m s sl' bm bk E (.slice (some ⟨g, 0, none⟩) E gc)), .int .i64 hd] w' (RrN n (fw W (16 + m * 8)) hd w') from by
    rw [hat.1]
    exact hrr)
  clear hrr hW hpl hat
  obtain ⟨i0, hi0, hz0, hz1, hz2⟩ := info_parts int_info
  unfold dv at HIN HRR ⊢
  go_enter Tryz.func10, Tryz.ntmps10
  obtain ⟨D, hD⟩ : ∃ D : Array Value, D = #[.int .i64 (n : Int), .int .i64 (m : Int), .int .i64 (s : Int), .int .i64 16, .int .i64 (sl' : Int), .int .i64 (bm : Int), .int .i64 (bk : Int), .int .i64 (E : Int), .slice (some ⟨g, 0, none⟩) E gc] := ⟨_, rfl⟩
  have HD := Lib.hid hD
  have HRB := Lib.hid (show Rb w D n 0 0 0 none none (((w.alloc (.cells #[.int .i64 (n : Int), .int .i64 (m : Int), .int .i64 (s : Int), .int .i64 16, .int .i64 (sl' : Int), .int .i64 (bm : Int), .int .i64 (bk : Int), .int .i64 (E : Int), .slice (some ⟨g, 0, none⟩) E gc] 30)).alloc (.cells #[.int .i64 0, .slice none 0 0, .slice none 0 0] 40)).alloc (.cells #[.int .i64 (n : Int), .slice none 0 0, .slice none 0 0] 40)) from by
    rw [hD]
    have h1 := hb_new w #[.int .i64 (n : Int), .int .i64 (m : Int), .int .i64 (s : Int), .int .i64 16, .int .i64 (sl' : Int), .int .i64 (bm : Int), .int .i64 (bk : Int), .int .i64 (E : Int), .slice (some ⟨g, 0, none⟩) E gc] 30
    have h2 := hb_new (w.alloc (.cells #[.int .i64 (n : Int), .int .i64 (m : Int), .int .i64 (s : Int), .int .i64 16, .int .i64 (sl' : Int), .int .i64 (bm : Int), .int .i64 (bk : Int), .int .i64 (E : Int), .slice (some ⟨g, 0, none⟩) E gc] 30)) #[.int .i64 0, .slice none 0 0, .slice none 0 0] 40
    have h3 := hb_new ((w.alloc (.cells #[.int .i64 (n : Int), .int .i64 (m : Int), .int .i64 (s : Int), .int .i64 16, .int .i64 (sl' : Int), .int .i64 (bm : Int), .int .i64 (bk : Int), .int .i64 (E : Int), .slice (some ⟨g, 0, none⟩) E gc] 30)).alloc (.cells #[.int .i64 0, .slice none 0 0, .slice none 0 0] 40)) #[.int .i64 (n : Int), .slice none 0 0, .slice none 0 0] 40
    simp only [World.size_alloc] at h2 h3
    have k := fun (W : World) o => (Below.refl W.heap.size W).alloc (Nat.le_refl _) o
    exact ⟨(h1.keep (k _ _)).keep (k _ _), h2.keep (k _ _), h3, ((k w _).trans ((k _ _).mono (by simp))).trans ((k _ _).mono (by simp; omega))⟩)
  clear hD
  go_wp2
  go_loopw [5, 6, 22] (fun v5 v6 q wr => ∃ (L : List Cl) (I : Option Addr) (ic : Nat) (H : Option Addr) (hc : Nat) (A5 : Option Addr) (c5 : Nat) (A6 : Option Addr) (c6 : Nat) (cs : List Value) (F : Nat → Prop), L.length ≤ m ∧ q = .int .i64 (L.length : Int) ∧ v5 = .slice A5 (bl L).length c5 ∧ v6 = .slice A6 (sl L).length c6 ∧ scn (gi W n m s) L.length = some L ∧ Fo w.heap.size wr F L (bl L) (sl L) cs (.slice I L.length ic) (.slice H L.length hc) (.slice A5 (bl L).length c5) (.slice A6 (sl L).length c6) ∧ Rb w D n L.length ic hc I H wr ∧ ∀ k, F k → w.heap.size + 1 + 1 < k) (fun _ _ q _ => m - (intOf q).toNat)
  case atStart => exact ⟨[], none, 0, none, 0, none, 0, none, 0, [], fun _ => False, Nat.zero_le _, rfl, rfl, rfl, rfl, fo_nil _ _, HRB.out, fun _ h => absurd h id⟩
  case round =>
    obtain ⟨L, I, ic, H, hc, A5, c5, A6, c6, cs, F, hLm, rfl, rfl, rfl, hsc, hfo, hrb, hFB⟩ := hrel
    have HFB := Lib.hid hFB
    clear hFB
    have HSC := Lib.hid hsc
    have HFO := Lib.hid hfo
    have HRB2 := Lib.hid hrb
    have HOK := Lib.hid (scn_oks (fun _ _ h => gi_ok h) hsc).1
    by_cases hlt : L.length < m
    · have HDC := Lib.hid (HIN.out wr hrb.below L.length hlt)
      have HGI := Lib.hid (show gi W n m s L.length = one (fw W (16 + m * 8)) n s (Ino.dec (rdw W (16 + 8 * L.length) 8)) from rfl)
      have HDM := Lib.hid (fun k p z (hd : Ino.dec (rdw W (16 + 8 * L.length) 8) = some (k, p, z)) => (Ino.dec_some hd).1)
      have hvol := hrb.vol
      rw [HD.out] at hvol
      have v0 := hvol.cell 0
      have v1 := hvol.cell 1
      have v2 := hvol.cell 2
      have v3 := hvol.cell 3
      have v4 := hvol.cell 4
      have v5 := hvol.cell 5
      have v6 := hvol.cell 6
      have v7 := hvol.cell 7
      have v8 := hvol.cell 8
      have vl := hvol.lt
      have hti : (L.length : Int) < (m : Int) := by omega
      clear hsc hfo hrb hvol HRB
      generalize Ino.dec (rdw W (16 + 8 * L.length) 8) = dcd at *
      go_wp2_with fail
      refine HDC.out.mono ?_
      rintro e w1 ⟨rfl, hb⟩
      clear v0 v1 v2 v3 v4 v5 v6 v7 v8 vl HDC
      cases dcd with
      | none =>
        have hal := (Below.refl w1.heap.size w1).alloc (Nat.le_refl _) (.cells #[.int .i64 0, .int .i64 (-1), .int .i64 0] 95)
        have HRB3 := Lib.hid (HRB2.out.keep (hb.trans (hal.mono hb.size)))
        have HN := Lib.hid (scn_stop HSC.out (show add L (gi W n m s L.length) = none by rw [HGI.out]; rfl) hlt)
        have r0 := HRB3.out.res.cell 0
        have r1 := HRB3.out.res.cell 1
        have r2 := HRB3.out.res.cell 2
        have rf0 := HRB3.out.res.frozen 0
        have rf1 := HRB3.out.res.frozen 1
        have rf2 := HRB3.out.res.frozen 2
        have rl := HRB3.out.res.lt
        clear hb hal
        simp only [Ino.rv, Ino.gv, Option.isSome]
        go_wp2
        generalize w1.alloc (.cells #[.int .i64 0, .int .i64 (-1), .int .i64 0] 95) = w2 at *
        refine bodyPost_ret (v := .tuple #[.agg #[.int .i64 0, .slice none 0 0, .slice none 0 0], .bool false]) ?_ rfl (.inl ⟨HN.out, rfl, ?_⟩)
        · simp [results, Tryz.results10, go_sem, r0, r1, r2]
        · exact ((HRB3.out.below.setCell (p := ⟨w.heap.size + 1, 0, none⟩) (Nat.le_succ _) _).setCell (p := ⟨w.heap.size + 1, 1, none⟩) (Nat.le_succ _) _).setCell (p := ⟨w.heap.size + 1, 2, none⟩) (Nat.le_succ _) _
      | some t3 =>
        obtain ⟨k, p, z⟩ := t3
        have hmy := HDM.out k p z rfl
        have hl3 := Ino.may_lt hmy
        obtain ⟨hd, hhd⟩ : ∃ hd : Int, hd = (p : Int) - 1 := ⟨_, rfl⟩
        have HHD := Lib.hid hhd
        have HL3 := Lib.hid hl3
        simp only [Ino.rv, Ino.gv, Option.isSome]
        rw [← hhd]
        clear HDM hmy hhd hl3
        have hal := (Below.refl w1.heap.size w1).alloc (Nat.le_refl _) (.cells #[.int .i64 (k : Int), .int .i64 hd, .int .i64 (z : Int)] 95)
        have HB2 := Lib.hid (hb.trans (hal.mono hb.size))
        have HX2 := Lib.hid (hb_new w1 #[.int .i64 (k : Int), .int .i64 hd, .int .i64 (z : Int)] 95)
        clear hb hal
        have hvol := (HRB2.out.keep HB2.out).vol
        rw [HD.out] at hvol
        have v0 := hvol.cell 0
        have v1 := hvol.cell 1
        have v2 := hvol.cell 2
        have v3 := hvol.cell 3
        have v4 := hvol.cell 4
        have v5 := hvol.cell 5
        have v6 := hvol.cell 6
        have v7 := hvol.cell 7
        have v8 := hvol.cell 8
        have vl := hvol.lt
        have x1 := HX2.out.cell 1
        have xl := HX2.out.lt
        have hvx : ¬ w.heap.size = w1.heap.size := fun e => by
          have h1 := hvol
          rw [e] at h1
          exact Pm.blk_ne h1 HX2.out (by decide) rfl
        clear hvol
        go_wp2_with fail
        clear v0 v1 v2 v3 v4 v5 v6 v7 v8 vl x1 xl hvx
        generalize w1.alloc (.cells #[.int .i64 (k : Int), .int .i64 hd, .int .i64 (z : Int)] 95) = w2 at *
        generalize w1.heap.size = xb at *
        clear w1
        have HBW2 := Lib.hid (HRB2.out.below.trans (HB2.out.mono HRB2.out.below.size))
        refine (HRR.out w2 HBW2.out hd).mono ?_
        intro e w3 k3
        unfold RrN at k3
        cases hr : rd (pat (fw W (16 + m * 8)) n) n hd with
        | none =>
          rw [hr] at k3
          obtain ⟨rfl, hb⟩ := k3
          have HN := Lib.hid (scn_stop HSC.out (show add L (gi W n m s L.length) = none by
            rw [HGI.out, one_none (by rw [← HHD.out]; exact hr)]
            rfl) hlt)
          have hal := (Below.refl w3.heap.size w3).alloc (Nat.le_refl _) (.cells #[.slice none 0 0, .slice none 0 0] 100)
          have HB4 := Lib.hid (HB2.out.trans ((hb.trans (hal.mono hb.size)).mono HB2.out.size))
          have hrb := rblocks_new (w3.alloc (.cells #[.slice none 0 0, .slice none 0 0] 100)) none none 0 0 0 [] ⟨fun j h => absurd h (Nat.not_lt_zero _)⟩ (fun p h => absurd h List.not_mem_nil) (Nat.zero_le _)
          have HBK := Lib.hid (show Calls Tryz.prog 42 #[.agg #[.slice none 0 0, .slice none 0 0]] (w3.alloc (.cells #[.slice none 0 0, .slice none 0 0] 100)) _ from hrb)
          clear hb hal hrb hr
          go_wp2_with fail
          generalize w3.alloc (.cells #[.slice none 0 0, .slice none 0 0] 100) = w4 at *
          refine HBK.out.mono ?_
          rintro e w5 ⟨G, gc', rfl, _, _, _, hb⟩
          have HB5 := Lib.hid (HB4.out.trans (hb.mono HB4.out.size))
          clear hb
          have HRBF := Lib.hid (HRB2.out.keep HB5.out)
          have r0 := HRBF.out.res.cell 0
          have r1 := HRBF.out.res.cell 1
          have r2 := HRBF.out.res.cell 2
          have rf0 := HRBF.out.res.frozen 0
          have rf1 := HRBF.out.res.frozen 1
          have rf2 := HRBF.out.res.frozen 2
          have rl := HRBF.out.res.lt
          go_wp2
          refine bodyPost_ret (v := .tuple #[.agg #[.int .i64 0, .slice none 0 0, .slice none 0 0], .bool false]) ?_ rfl (.inl ⟨HN.out, rfl, ?_⟩)
          · simp [results, Tryz.results10, go_sem, r0, r1, r2]
          · exact ((HRBF.out.below.setCell (p := ⟨w.heap.size + 1, 0, none⟩) (Nat.le_succ _) _).setCell (p := ⟨w.heap.size + 1, 1, none⟩) (Nat.le_succ _) _).setCell (p := ⟨w.heap.size + 1, 2, none⟩) (Nat.le_succ _) _
        | some l =>
          rw [hr] at k3
          obtain ⟨A, ac, Dd, dc, rfl, hA, hD, hcap, hnw, hb⟩ := k3
          have HHR := Lib.hid hr
          have hmy : Mays l := fun p hp => (Slo.dec_some (Chn.path_mem (Chn.rd_iff.1 hr).1 p hp).2.1).1
          have HMYS := Lib.hid hmy
          have hll : l.length ≤ n := (Chn.rd_iff.1 hr).2
          have HOK1 := Lib.hid (show ∀ x ∈ sls l, x < n from fun x hx => by
            obtain ⟨p, hp, rfl⟩ := List.mem_map.1 hx
            exact (Chn.path_mem (Chn.rd_iff.1 hr).1 p hp).1)
          have HOK2 := Lib.hid (show ∀ x ∈ blk l, x < n from fun x hx => by
            obtain ⟨p, hp, h1, h2⟩ := blk_mem hx
            have := (Chn.path_mem (Chn.rd_iff.1 hr).1 p hp).2.2
            omega)
          have hal := (Below.refl w3.heap.size w3).alloc (Nat.le_refl _) (.cells #[.slice A l.length ac, .slice Dd l.length dc] 100)
          have hb4 := hb.trans (hal.mono hb.size)
          have HB4 := Lib.hid (HB2.out.trans (hb4.mono HB2.out.size))
          have HX4 := Lib.hid (HX2.out.keep hb4)
          have HC4 := Lib.hid (hb_new w3 #[.slice A l.length ac, .slice Dd l.length dc] 100)
          have HA4 := Lib.hid (hA.keep hal)
          have HD4 := Lib.hid (hD.keep hal)
          have HNW := Lib.hid hnw
          have hrb := rblocks_new _ A Dd l.length ac dc l (hD.keep hal) hmy (by omega)
          rw [← blk_len] at hrb
          have HBK := Lib.hid hrb
          have HS24 := Lib.hid (show w2.heap.size ≤ (w3.alloc (.cells #[.slice A l.length ac, .slice Dd l.length dc] 100)).heap.size from hb4.size)
          clear hb hal hb4 hr hA hD hnw hcap hmy hrb HX2
          go_wp2_with fail
          generalize w3.alloc (.cells #[.slice A l.length ac, .slice Dd l.length dc] 100) = w4 at *
          generalize w3.heap.size = yb at *
          clear w3
          refine HBK.out.mono ?_
          rintro e w5 ⟨G, gc', rfl, hng, _, hnG, hb⟩
          have HB5 := Lib.hid (HB4.out.trans (hb.mono HB4.out.size))
          have HX5 := Lib.hid (HX4.out.keep hb)
          have HC5 := Lib.hid (HC4.out.keep hb)
          have HA5 := Lib.hid (HA4.out.keep hb)
          have HD5 := Lib.hid (HD4.out.keep hb)
          have HG5 := Lib.hid hng
          have HNG := Lib.hid hnG
          have HS4 := Lib.hid (show w2.heap.size ≤ w4.heap.size ∧ w4.heap.size ≤ w5.heap.size from ⟨HS24.out, hb.size⟩)
          clear hb hng hnG HX4 HC4 HA4 HD4 HBK
          have hvol := (HRB2.out.keep HB5.out).vol
          rw [HD.out] at hvol
          have v0 := hvol.cell 0
          have v2 := hvol.cell 2
          have vl := hvol.lt
          have x2 := HX5.out.cell 2
          have xl := HX5.out.lt
          have hp3 := HL3.out.2.2
          obtain ⟨pr, hpr⟩ : ∃ pr, pr = s * n := ⟨_, rfl⟩
          have hpb : pr ≤ 2560 := by
            rw [hpr]
            rcases hs2 with h | h <;> rw [h] <;> omega
          have hmul : IntKind.i64.wrap ((s : Int) * (n : Int)) = (pr : Int) := by
            rw [← Int.natCast_mul, ← hpr]
            exact IntWalk.i64_in _ (by omega)
          have HPR := Lib.hid hpr
          clear hvol hpr
          by_cases hzz : pr < z
          · have HN := Lib.hid (scn_stop HSC.out (show add L (gi W n m s L.length) = none by
              rw [HGI.out]
              by_cases ht : tot l = need s z
              · rw [one_yes (l := l) (by rw [← HHD.out]; exact HHR.out) ht]
                refine add_not fun h => ?_
                have h1 := few_in h.2 (fun x hx => by
                  rcases List.mem_append.1 hx with hx | hx
                  · exact HOK.out.bl_lt x hx
                  · exact HOK2.out x hx)
                rw [List.length_append] at h1
                have h1' : (blk l).length ≤ n := by
                  have : (Cl.mk k p z l).l = l := rfl
                  rw [this] at h1
                  omega
                rw [blk_len, ht] at h1'
                have h2 := ((need_iff (s := s) (z := z) (c := need s z) (by omega)).1 rfl).1
                have h3 : need s z * s ≤ n * s := Nat.mul_le_mul_right s h1'
                have h4 := HPR.out
                rw [Nat.mul_comm] at h4
                omega
              · rw [one_not (l := l) (by rw [← HHD.out]; exact HHR.out) ht]
                rfl) hlt)
            have hzi : (pr : Int) < (z : Int) := by omega
            clear hzz
            have HRBF := Lib.hid (HRB2.out.keep HB5.out)
            have r0 := HRBF.out.res.cell 0
            have r1 := HRBF.out.res.cell 1
            have r2 := HRBF.out.res.cell 2
            have rf0 := HRBF.out.res.frozen 0
            have rf1 := HRBF.out.res.frozen 1
            have rf2 := HRBF.out.res.frozen 2
            have rl := HRBF.out.res.lt
            go_wp2
            refine bodyPost_ret (v := .tuple #[.agg #[.int .i64 0, .slice none 0 0, .slice none 0 0], .bool false]) ?_ rfl (.inl ⟨HN.out, rfl, ?_⟩)
            · simp [results, Tryz.results10, go_sem, r0, r1, r2]
            · exact ((HRBF.out.below.setCell (p := ⟨w.heap.size + 1, 0, none⟩) (Nat.le_succ _) _).setCell (p := ⟨w.heap.size + 1, 1, none⟩) (Nat.le_succ _) _).setCell (p := ⟨w.heap.size + 1, 2, none⟩) (Nat.le_succ _) _
          · have hzi : ¬ (pr : Int) < (z : Int) := by omega
            have hnd := fun w' => need_any w' s z (by omega) (by omega) hp3
            obtain ⟨nd, hnde⟩ : ∃ nd, nd = need s z := ⟨_, rfl⟩
            rw [← hnde] at hnd
            have HND := Lib.hid hnd
            have HNN := Lib.hid hnde
            clear hnd hnde
            obtain ⟨tt, htt⟩ : ∃ tt, tt = (blk l).length := ⟨_, rfl⟩
            have HTT := Lib.hid htt
            rw [← htt]
            clear htt
            by_cases heq : tt = nd
            · subst heq
              go_wp2_with fail
              refine (HND.out _).mono ?_
              rintro e w6 ⟨rfl, hb⟩
              have HGY := Lib.hid (show gi W n m s L.length = some ⟨k, p, z, l⟩ by
                rw [HGI.out, one_yes (l := l) (by rw [← HHD.out]; exact HHR.out) (by rw [← HNN.out, ← blk_len, ← HTT.out])])
              have HB6 := Lib.hid (HB5.out.trans (hb.mono HB5.out.size))
              have HRO := Lib.hid (show Ro w D n (fun k => F k ∨ (wr.heap.size ≤ k ∧ k < w6.heap.size)) L (bl L) (sl L) cs I ic H hc (.slice A5 (bl L).length c5) (.slice A6 (sl L).length c6) xb #[.int .i64 (k : Int), .int .i64 hd, .int .i64 (z : Int)] yb #[.slice A l.length ac, .slice Dd l.length dc] A Dd l G ((blk l).map Int.ofNat) w6 from by
                have hs2w : wr.heap.size ≤ w2.heap.size := HB2.out.size
                have hs4 := HS4.out
                have hs6 := hb.size
                refine ⟨HFO.out.more HB6.out, HRB2.out.keep HB6.out, HX5.out.keep hb, HC5.out.keep hb, ⟨HA5.out.keep hb, HD5.out.keep hb, ?_, ?_⟩, HG5.out.keep hb, ?_⟩
                · intro hne x hx
                  have h1 := HNW.out.1 x hx
                  obtain ⟨b', o', e', hlt', _⟩ := HA5.out.at' 0 (by rw [slots_len]; exact List.length_pos_iff.2 hne)
                  rw [hx] at e'
                  injection e' with e'
                  rw [e'] at h1 ⊢
                  exact .inr ⟨by omega, by show b' < _; omega⟩
                · intro hne x hx
                  have h1 := HNW.out.2 x hx
                  obtain ⟨b', o', e', hlt', _⟩ := HD5.out.at' 0 (List.length_pos_iff.2 hne)
                  rw [hx] at e'
                  injection e' with e'
                  rw [e'] at h1 ⊢
                  exact .inr ⟨by omega, by show b' < _; omega⟩
                · intro hne x hx
                  have h1 := HNG.out x hx
                  obtain ⟨b', o', e', hlt', _⟩ := HG5.out.at' 0 (List.length_pos_iff.2 hne)
                  rw [hx] at e'
                  injection e' with e'
                  rw [e'] at h1 ⊢
                  exact .inr ⟨by omega, by show b' < _; omega⟩)
              have HFB6 := Lib.hid (show ∀ q, (F q ∨ (wr.heap.size ≤ q ∧ q < w6.heap.size)) → w.heap.size + 1 + 1 < q from fun q hq => by
                rcases hq with hq | hq
                · exact HFB.out q hq
                · have := HRB2.out.box.lt
                  omega)
              obtain ⟨F6, hF6⟩ : ∃ F6 : Nat → Prop, F6 = fun k => F k ∨ (wr.heap.size ≤ k ∧ k < w6.heap.size) := ⟨_, rfl⟩
              rw [← hF6] at HRO
              have HFB7 := Lib.hid (show ∀ q, F6 q → w.heap.size + 1 + 1 < q by rw [hF6]; exact HFB6.out)
              have x0 := HC5.out
              clear hb hF6 HFB6 v0 v2 vl x2 xl x0 hmul HND HX5 HC5 HA5 HD5 HG5 HNG HNW HS4 HRR HIN HFO
              have y0 := HRO.out.xx.cell 0
              have yl := HRO.out.xx.lt
              have hll2 : l.length ≤ 65534 := by omega
              go_wp2
              clear y0 yl
              go_loopw [6, 69] (fun v6 q wq => ∃ (t : Nat) (B6 : Option Addr) (d6 : Nat) (Sx : List Nat), t ≤ l.length ∧ q = .int .i64 (t : Int) ∧ v6 = .slice B6 Sx.length d6 ∧ Sx = sl L ++ (sls l).take t ∧ Sx.Nodup ∧ Ro w D n F6 L (bl L) Sx cs I ic H hc (.slice A5 (bl L).length c5) (.slice B6 Sx.length d6) xb #[.int .i64 (k : Int), .int .i64 hd, .int .i64 (z : Int)] yb #[.slice A l.length ac, .slice Dd l.length dc] A Dd l G ((blk l).map Int.ofNat) wq) (fun _ q _ => l.length - (intOf q).toNat)
              case atStart => exact ⟨0, A6, c6, sl L, Nat.zero_le _, rfl, rfl, by simp, HOK.out.sl, HRO.out⟩
              case round =>
                obtain ⟨t, B6, d6, Sx, ht, rfl, rfl, hRx, hnd, hrq⟩ := hrel
                have HNDS := Lib.hid hnd
                have HRQ := Lib.hid hrq
                clear hrq
                by_cases hlt2 : t < l.length
                · have hnt := HRQ.out.kp.nts
                  rw [← sls_ints] at hnt
                  obtain ⟨ba, oa, hA', hba, c0⟩ := hnt.at' t (by rw [List.length_map]; exact (by rw [sls_len]; exact hlt2))
                  rw [List.getElem_map] at c0
                  have hsn : (sls l)[t]'(by rw [sls_len]; exact hlt2) < n := HOK1.out _ (List.getElem_mem (by rw [sls_len]; exact hlt2))
                  have hbd : ∀ x ∈ Sx, x < n := fun x hx => by
                    rw [hRx] at hx
                    rcases List.mem_append.1 hx with hx | hx
                    · exact HOK.out.sl_lt x hx
                    · exact HOK1.out x (List.mem_of_mem_take hx)
                  have hfw := few_in hnd hbd
                  have hha := has_any wr B6 d6 (Sx.map Int.ofNat) ((((sls l)[t]'(by rw [sls_len]; exact hlt2)) : Nat) : Int) (few_ints (by omega) HRQ.out.fo.slt hbd (by omega))
                  rw [List.length_map] at hha
                  have HST := Lib.hid (show Sx ++ [(sls l)[t]'(by rw [sls_len]; exact hlt2)] = sl L ++ (sls l).take (t + 1) by rw [hRx, List.take_succ_eq_append_getElem (by rw [sls_len]; exact hlt2), List.append_assoc])
                  have HNX := Lib.hid (show (sls l)[t]'(by rw [sls_len]; exact hlt2) ∉ Sx → (Sx ++ [(sls l)[t]'(by rw [sls_len]; exact hlt2)]).Nodup from fun h => by
                    rw [HST.out]
                    rw [hRx] at hnd h
                    exact nodup_more hnd (by rw [sls_len]; exact hlt2) h)
                  have HNI := Lib.hid (show (sls l)[t]'(by rw [sls_len]; exact hlt2) ∈ Sx → ¬ (sl L ++ sls l).Nodup from fun h => by rw [hRx] at h; exact nodup_less (by rw [sls_len]; exact hlt2) h)
                  generalize (sls l)[t]'(by rw [sls_len]; exact hlt2) = sx at *
                  clear hnt hnd hbd hRx
                  have c0 : wr.cell? ⟨ba, oa + t, none⟩ = some (.int .i64 (sx : Int)) := c0
                  have hsl : Sx.length ≤ 1000 := by omega
                  have hti2 : (t : Int) < ((l.length : Nat) : Int) := by omega
                  subst hA'
                  by_cases hin : sx ∈ Sx
                  · rw [decide_eq_true (ints_mem.2 hin)] at hha
                    have HHA := Lib.hid hha
                    have HN := Lib.hid (scn_stop HSC.out (show add L (gi W n m s L.length) = none by
                      rw [HGY.out]
                      exact add_not (fun h => HNI.out hin h.1)) hlt)
                    clear hha hin
                    go_wp2_with fail
                    refine HHA.out.mono ?_
                    rintro e w7 ⟨rfl, hb⟩
                    have HRO7 := Lib.hid (HRQ.out.keep hb)
                    clear hb
                    have HRBF := Lib.hid (HRO7.out.rb)
                    have r0 := HRBF.out.res.cell 0
                    have r1 := HRBF.out.res.cell 1
                    have r2 := HRBF.out.res.cell 2
                    have rf0 := HRBF.out.res.frozen 0
                    have rf1 := HRBF.out.res.frozen 1
                    have rf2 := HRBF.out.res.frozen 2
                    have rl := HRBF.out.res.lt
                    go_wp2
                    refine bodyPost_ret (v := .tuple #[.agg #[.int .i64 0, .slice none 0 0, .slice none 0 0], .bool false]) ?_ rfl (.inl ⟨HN.out, rfl, ?_⟩)
                    · simp [results, Tryz.results10, go_sem, r0, r1, r2]
                    · exact ((HRBF.out.below.setCell (p := ⟨w.heap.size + 1, 0, none⟩) (Nat.le_succ _) _).setCell (p := ⟨w.heap.size + 1, 1, none⟩) (Nat.le_succ _) _).setCell (p := ⟨w.heap.size + 1, 2, none⟩) (Nat.le_succ _) _
                  · rw [decide_eq_false (fun h => hin (ints_mem.1 h))] at hha
                    have HHA := Lib.hid hha
                    have HND2 := Lib.hid (HNX.out hin)
                    clear hha hin
                    go_wp2_with fail
                    refine HHA.out.mono ?_
                    rintro e w7 ⟨rfl, hb⟩
                    have HRO7 := Lib.hid (HRQ.out.keep hb)
                    have HRO8 := Lib.hid (HRO7.out.keep ((Below.refl w7.heap.size w7).alloc (Nat.le_refl _) (.cells #[.int .i64 (sx : Int)] 3)))
                    have hws := HRO7.out.rb.below.size
                    clear hb
                    go_wp2_with (at_builtin
                                 refine wpList_append_own_at _ rfl (.tmp 77) (.tmp 79) 50 rfl w.heap.size 3 i0 (.int .i64 0) 1 8 Tryz.underlying50 hi0 hz0 hz1 hz2 rfl (by decide) (.slice B6 Sx.length d6) Sx.length (i64s (Sx.map Int.ofNat)) rfl HRO8.out.fo.slt ⟨w7.heap.size, 0, none⟩ 1 1 [.int .i64 (sx : Int)] rfl rfl (cell_one_new _ _ _) (by simp [Value.oneCell']) (by unfold maxLen; omega) (by omega) (by simp; omega) ?_
                                 intro v9 w9 hown9 hgr9 _ hat9
                                 obtain ⟨G9, c9, rfl⟩ := Pack.row_slice hown9
                                 have HRO9 := Lib.hid (HRO8.out.addS hgr9 hat9 hown9)
                                 clear hown9 hgr9 hat9)
                    have hrl : (Sx ++ [sx]).length = Sx.length + 1 := by simp
                    refine ⟨⟨t + 1, G9, c9, Sx ++ [sx], by omega, by go_num, by rw [hrl], HST.out, HND2.out, by rw [hrl]; exact HRO9.out⟩, by simp [intOf]; omega⟩
                · obtain rfl : t = l.length := by omega
                  have htk : (sls l).take l.length = sls l := by
                    have := List.take_length (l := sls l)
                    rwa [sls_len] at this
                  rw [htk] at hRx
                  have HSX := Lib.hid hRx
                  have HRS := Lib.hid HRQ.out
                  have hbl6 : (blk l).length ≤ 5000000000 := few_blk HMYS.out hll2
                  clear HRQ hnd hRx
                  have htt := HTT.out
                  clear HTT HNN
                  subst htt
                  go_wp2
                  go_loopw [5, 84] (fun v5 q wq => ∃ (t : Nat) (B5 : Option Addr) (d5 : Nat) (Ux : List Nat), t ≤ (blk l).length ∧ q = .int .i64 (t : Int) ∧ v5 = .slice B5 Ux.length d5 ∧ Ux = bl L ++ (blk l).take t ∧ Ux.Nodup ∧ Ro w D n F6 L Ux Sx cs I ic H hc (.slice B5 Ux.length d5) (.slice B6 Sx.length d6) xb #[.int .i64 (k : Int), .int .i64 hd, .int .i64 (z : Int)] yb #[.slice A l.length ac, .slice Dd l.length dc] A Dd l G ((blk l).map Int.ofNat) wq) (fun _ q _ => (blk l).length - (intOf q).toNat)
                  case atStart => exact ⟨0, A5, c5, bl L, Nat.zero_le _, rfl, rfl, by simp, HOK.out.bl, HRS.out⟩
                  case round =>
                    obtain ⟨t, B5, d5, Ux, ht, rfl, rfl, hRx, hnd, hrq⟩ := hrel
                    have HNDU := Lib.hid hnd
                    have HRQ := Lib.hid hrq
                    clear hrq
                    by_cases hlt2 : t < (blk l).length
                    · have hnt := HRQ.out.gn
                      obtain ⟨ba, oa, hA', hba, c0⟩ := hnt.at' t (by rw [List.length_map]; exact hlt2)
                      rw [List.getElem_map] at c0
                      have hsn : (blk l)[t]'hlt2 < n := HOK2.out _ (List.getElem_mem hlt2)
                      have hbd : ∀ x ∈ Ux, x < n := fun x hx => by
                        rw [hRx] at hx
                        rcases List.mem_append.1 hx with hx | hx
                        · exact HOK.out.bl_lt x hx
                        · exact HOK2.out x (List.mem_of_mem_take hx)
                      have hfw := few_in hnd hbd
                      have hha := has_any wr B5 d5 (Ux.map Int.ofNat) ((((blk l)[t]'hlt2) : Nat) : Int) (few_ints (by omega) HRQ.out.fo.blk hbd (by omega))
                      rw [List.length_map] at hha
                      have HST := Lib.hid (show Ux ++ [(blk l)[t]'hlt2] = bl L ++ (blk l).take (t + 1) by rw [hRx, List.take_succ_eq_append_getElem hlt2, List.append_assoc])
                      have HNX := Lib.hid (show (blk l)[t]'hlt2 ∉ Ux → (Ux ++ [(blk l)[t]'hlt2]).Nodup from fun h => by
                        rw [HST.out]
                        rw [hRx] at hnd h
                        exact nodup_more hnd hlt2 h)
                      have HNI := Lib.hid (show (blk l)[t]'hlt2 ∈ Ux → ¬ (bl L ++ blk l).Nodup from fun h => by rw [hRx] at h; exact nodup_less hlt2 h)
                      generalize (blk l)[t]'hlt2 = sx at *
                      clear hnt hnd hbd hRx
                      have c0 : wr.cell? ⟨ba, oa + t, none⟩ = some (.int .i64 (sx : Int)) := c0
                      have hsl : Ux.length ≤ 1000 := by omega
                      have hti2 : (t : Int) < (((blk l).length : Nat) : Int) := by omega
                      subst hA'
                      by_cases hin : sx ∈ Ux
                      · rw [decide_eq_true (ints_mem.2 hin)] at hha
                        have HHA := Lib.hid hha
                        have HN := Lib.hid (scn_stop HSC.out (show add L (gi W n m s L.length) = none by
                          rw [HGY.out]
                          exact add_not (fun h => HNI.out hin h.2)) hlt)
                        clear hha hin
                        go_wp2_with fail
                        refine HHA.out.mono ?_
                        rintro e w7 ⟨rfl, hb⟩
                        have HRO7 := Lib.hid (HRQ.out.keep hb)
                        clear hb
                        have HRBF := Lib.hid (HRO7.out.rb)
                        have r0 := HRBF.out.res.cell 0
                        have r1 := HRBF.out.res.cell 1
                        have r2 := HRBF.out.res.cell 2
                        have rf0 := HRBF.out.res.frozen 0
                        have rf1 := HRBF.out.res.frozen 1
                        have rf2 := HRBF.out.res.frozen 2
                        have rl := HRBF.out.res.lt
                        go_wp2
                        refine bodyPost_ret (v := .tuple #[.agg #[.int .i64 0, .slice none 0 0, .slice none 0 0], .bool false]) ?_ rfl (.inl ⟨HN.out, rfl, ?_⟩)
                        · simp [results, Tryz.results10, go_sem, r0, r1, r2]
                        · exact ((HRBF.out.below.setCell (p := ⟨w.heap.size + 1, 0, none⟩) (Nat.le_succ _) _).setCell (p := ⟨w.heap.size + 1, 1, none⟩) (Nat.le_succ _) _).setCell (p := ⟨w.heap.size + 1, 2, none⟩) (Nat.le_succ _) _
                      · rw [decide_eq_false (fun h => hin (ints_mem.1 h))] at hha
                        have HHA := Lib.hid hha
                        have HND2 := Lib.hid (HNX.out hin)
                        clear hha hin
                        go_wp2_with fail
                        refine HHA.out.mono ?_
                        rintro e w7 ⟨rfl, hb⟩
                        have HRO7 := Lib.hid (HRQ.out.keep hb)
                        have HRO8 := Lib.hid (HRO7.out.keep ((Below.refl w7.heap.size w7).alloc (Nat.le_refl _) (.cells #[.int .i64 (sx : Int)] 3)))
                        have hws := HRO7.out.rb.below.size
                        clear hb
                        go_wp2_with (at_builtin
                                     refine wpList_append_own_at _ rfl (.tmp 92) (.tmp 94) 50 rfl w.heap.size 3 i0 (.int .i64 0) 1 8 Tryz.underlying50 hi0 hz0 hz1 hz2 rfl (by decide) (.slice B5 Ux.length d5) Ux.length (i64s (Ux.map Int.ofNat)) rfl HRO8.out.fo.blk ⟨w7.heap.size, 0, none⟩ 1 1 [.int .i64 (sx : Int)] rfl rfl (cell_one_new _ _ _) (by simp [Value.oneCell']) (by unfold maxLen; omega) (by omega) (by simp; omega) ?_
                                     intro v9 w9 hown9 hgr9 _ hat9
                                     obtain ⟨G9, c9, rfl⟩ := Pack.row_slice hown9
                                     have HRO9 := Lib.hid (HRO8.out.addU hgr9 hat9 hown9)
                                     clear hown9 hgr9 hat9)
                        have hrl : (Ux ++ [sx]).length = Ux.length + 1 := by simp
                        refine ⟨⟨t + 1, G9, c9, Ux ++ [sx], by omega, by go_num, by rw [hrl], HST.out, HND2.out, by rw [hrl]; exact HRO9.out⟩, by simp [intOf]; omega⟩
                    · obtain rfl : t = (blk l).length := by omega
                      rw [List.take_length] at hRx
                      have HUX := Lib.hid hRx
                      clear hRx hnd
                      have HK := HRQ.out
                      have HCB := Lib.hid (show w.heap.size + 1 + 1 < wr.heap.size from HK.rb.box.lt)
                      have hF6 : ¬ F6 (w.heap.size + 1 + 1) := fun e => by have := HFB7.out _ e; omega
                      have HF6 := Lib.hid hF6
                      have b1 := HK.rb.box.cell 1
                      have b2 := HK.rb.box.cell 2
                      have bl' := HK.rb.box.lt
                      have bf1 := HK.rb.box.frozen 1
                      have bf2 := HK.rb.box.frozen 2
                      have x0 := HK.nb.cell 0
                      have x1 := HK.nb.cell 1
                      have x2 := HK.nb.cell 2
                      have xl := HK.nb.lt
                      have y0 := HK.xx.cell 0
                      have y1 := HK.xx.cell 1
                      have yl := HK.xx.lt
                      have hws := HK.rb.below.size
                      obtain ⟨j0, hj0, hq0, hq1, hq2⟩ := info_parts rnode_info
                      obtain ⟨k0, hk0, hr0, hr1, hr2⟩ := info_parts rchain_info
                      have hal := (Below.refl wr.heap.size wr).alloc (Nat.le_refl _) (.cells #[.int .i64 (k : Int), .int .i64 hd, .int .i64 (z : Int)] 95)
                      have HO7 := Lib.hid (HK.keep hal)
                      have hcy : ¬ w.heap.size + 1 + 1 = yb := Pm.blk_ne HK.rb.box HK.xx (by decide)
                      have hyc : ¬ yb = w.heap.size + 1 + 1 := fun e => hcy e.symm
                      have hLl : L.length ≤ 1000 := by omega
                      clear hal HK hF6
                      go_wp2_with (first
                        | (at_builtin
                           refine wpList_append_own_at _ rfl (.tmp 98) (.tmp 100) 37 rfl w.heap.size 95 j0 (.agg #[.int .i64 0, .int .i64 0, .int .i64 0]) 3 24 Tryz.underlying37 hj0 hq0 hq1 hq2 rfl (by decide) (.slice I L.length ic) L.length (ncells L) rfl HO7.out.fo.nds ⟨wr.heap.size, 0, none⟩ 1 1 [.int .i64 (k : Int), .int .i64 hd, .int .i64 (z : Int)] rfl rfl (Chn.cells_three_new _ _ _ _ _) (by simp [Value.oneCell']) (by unfold maxLen; omega) (by omega) (by simp; omega) ?_
                           intro v9 w9 hown9 hgr9 _ hat9
                           obtain ⟨G9, c9, rfl⟩ := Chn.row_slice3 hown9
                           have HR9 := Lib.hid (HO7.out.rb.grown HO7.out.fo.nds (Nat.le_refl _) hgr9 (by decide) (by decide))
                           have HY9 := Lib.hid (hb_grown HO7.out.xx hgr9 (hb_far3 HO7.out.xx HO7.out.fo.nds (by decide)))
                           have HK9 := Lib.hid (HO7.out.kp.moved hgr9.size (grown_block hgr9 HO7.out.fo.fI HO7.out.fo.fl))
                           have HF9 := Lib.hid (HO7.out.fo.addI (c := ⟨k, p, z, l⟩) hgr9 hat9 (by have h9 := hown9; rw [HHD.out] at h9; exact h9))
                           have HF10 := Lib.hid (HF9.out.set (i := 1) HR9.out.box (by decide) (by decide) (by decide) HF6.out (.slice G9 (L.length + 1) c9))
                           have HX10 := Lib.hid (HR9.out.box.set 1 (.slice G9 (L.length + 1) c9))
                           have HV10 := Lib.hid (HR9.out.vol.far (p := ⟨w.heap.size + 1 + 1, 1, none⟩) (by show w.heap.size ≠ w.heap.size + 1 + 1; omega) (.slice G9 (L.length + 1) c9))
                           have HZ10 := Lib.hid (HR9.out.res.far (p := ⟨w.heap.size + 1 + 1, 1, none⟩) (by show w.heap.size + 1 ≠ w.heap.size + 1 + 1; omega) (.slice G9 (L.length + 1) c9))
                           have HY10 := Lib.hid (HY9.out.far (p := ⟨w.heap.size + 1 + 1, 1, none⟩) hyc (.slice G9 (L.length + 1) c9))
                           have HB10 := Lib.hid (HR9.out.below.setCell (p := ⟨w.heap.size + 1 + 1, 1, none⟩) (by show w.heap.size ≤ w.heap.size + 1 + 1; omega) (.slice G9 (L.length + 1) c9))
                           have HK10 := Lib.hid (HK9.out.moved (w' := w9.setCell ⟨w.heap.size + 1 + 1, 1, none⟩ (.slice G9 (L.length + 1) c9)) (by simp [World.setCell]) (fun q hq => Below.heap_setCell w9 _ _ q (fun e : q = w.heap.size + 1 + 1 => HF6.out (e ▸ hq))))
                           have hz10 : (w9.setCell ⟨w.heap.size + 1 + 1, 1, none⟩ (.slice G9 (L.length + 1) c9)).heap.size = w9.heap.size := by simp [World.setCell]
                           have hal10 := (Below.refl (w9.setCell ⟨w.heap.size + 1 + 1, 1, none⟩ (.slice G9 (L.length + 1) c9)).heap.size (w9.setCell ⟨w.heap.size + 1 + 1, 1, none⟩ (.slice G9 (L.length + 1) c9))).alloc (Nat.le_refl _) (.cells #[.slice A l.length ac, .slice Dd l.length dc] 100)
                           have HAL10 := Lib.hid hal10
                           have HF11 := Lib.hid (HF10.out.keep hal10)
                           have hn11 := cells_two_new (w9.setCell ⟨w.heap.size + 1 + 1, 1, none⟩ (.slice G9 (L.length + 1) c9)) (.slice A l.length ac) (.slice Dd l.length dc) 100
                           rw [hz10] at hn11
                           have HN11 := Lib.hid hn11
                           have b19 := HR9.out.box.cell 1
                           have b29 := HR9.out.box.cell 2
                           have bf19 := HR9.out.box.frozen 1
                           have bf29 := HR9.out.box.frozen 2
                           have bl9 := HR9.out.box.lt
                           have y09 := HY9.out.cell 0
                           have y19 := HY9.out.cell 1
                           have yl9 := HY9.out.lt
                           have hs9 := HR9.out.below.size
                           clear hown9 hgr9 hat9 hal10 hn11 b1 b2 bf1 bf2 x0 x1 x2 xl y0 y1)
                        | (at_builtin
                           refine wpList_append_own_at _ rfl (.tmp 104) (.tmp 106) 38 rfl w.heap.size 100 k0 (.agg #[.slice none 0 0, .slice none 0 0]) 2 48 Tryz.underlying38 hk0 hr0 hr1 hr2 rfl (by decide) (.slice H L.length hc) L.length cs rfl HF11.out.chs ⟨w9.heap.size, 0, none⟩ 1 1 [.slice A l.length ac, .slice Dd l.length dc] rfl rfl HN11.out (by simp [Value.oneCell']) (by unfold maxLen; omega) (by omega) (by simp [World.setCell]; omega) ?_
                           intro v12 w12 hown12 hgr12 _ hat12
                           obtain ⟨G12, c12, rfl⟩ := row_slice_of hown12
                           have HF12 := Lib.hid (HF11.out.addH (c := ⟨k, p, z, l⟩) (HK10.out.moved HAL10.out.size (fun q hq => HAL10.out.block q (HF10.out.fl q hq))) hgr12 hat12 hown12)
                           have HX12 := Lib.hid (hb_grown (HX10.out.keep HAL10.out) hgr12 (hb_far3 (HX10.out.keep HAL10.out) HF11.out.chs (by decide)))
                           have HV12 := Lib.hid (hb_grown (HV10.out.keep HAL10.out) hgr12 (hb_far3 (HV10.out.keep HAL10.out) HF11.out.chs (by decide)))
                           have HZ12 := Lib.hid (hb_grown (HZ10.out.keep HAL10.out) hgr12 (hb_far3 (HZ10.out.keep HAL10.out) HF11.out.chs (by decide)))
                           have HB12 := Lib.hid ((HB10.out.trans (HAL10.out.mono HB10.out.size)).grown hgr12 (HB10.out.trans (HAL10.out.mono HB10.out.size)).size (fun _ hk => Chn.row_base_lt3 HF11.out.chs hk))
                           have b212 := HX12.out.cell 2
                           have bf212 := HX12.out.frozen 2
                           have bl12 := HX12.out.lt
                           clear hown12 hgr12 hat12))
                      have e : (L ++ [(⟨k, p, z, l⟩ : Cl)]).length = L.length + 1 := by simp
                      have eb : bl (L ++ [(⟨k, p, z, l⟩ : Cl)]) = Ux := by rw [bl_snoc, HUX.out]
                      have es : sl (L ++ [(⟨k, p, z, l⟩ : Cl)]) = Sx := by rw [sl_snoc, HSX.out]
                      refine ⟨⟨L ++ [⟨k, p, z, l⟩], G9, c9, G12, c12, B5, d5, B6, d6, cs ++ [.slice A l.length ac, .slice Dd l.length dc], F6, by rw [e]; omega, by rw [e]; go_num, by rw [eb], by rw [es], ?_, ?_, ?_, HFB7.out⟩, by simp [intOf]; omega⟩
                      · rw [e]
                        exact scn_next HSC.out HGY.out (by rw [← HSX.out]; exact HNDS.out) (by rw [← HUX.out]; exact HNDU.out)
                      · rw [eb, es, e]
                        exact HF12.out.set (i := 2) HX12.out (by decide) (by decide) (by decide) HF6.out (.slice G12 (L.length + 1) c12)
                      · rw [e]
                        exact ⟨HV12.out.far (p := ⟨w.heap.size + 1 + 1, 2, none⟩) (by show w.heap.size ≠ w.heap.size + 1 + 1; omega) (.slice G12 (L.length + 1) c12), HZ12.out.far (p := ⟨w.heap.size + 1 + 1, 2, none⟩) (by show w.heap.size + 1 ≠ w.heap.size + 1 + 1; omega) (.slice G12 (L.length + 1) c12), HX12.out.set 2 (.slice G12 (L.length + 1) c12), HB12.out.setCell (p := ⟨w.heap.size + 1 + 1, 2, none⟩) (by show w.heap.size ≤ w.heap.size + 1 + 1; omega) (.slice G12 (L.length + 1) c12)⟩
            · have hne : ((tt : Int) != (nd : Int)) = true := by
                simp only [bne_iff_ne, ne_eq]
                omega
              have HN := Lib.hid (scn_stop HSC.out (show add L (gi W n m s L.length) = none by
                rw [HGI.out, one_not (l := l) (by rw [← HHD.out]; exact HHR.out) (by rw [← HNN.out, ← blk_len, ← HTT.out]; exact heq)]
                rfl) hlt)
              clear heq
              go_wp2_with fail
              refine (HND.out _).mono ?_
              rintro e w6 ⟨rfl, hb⟩
              have HB6 := Lib.hid (HB5.out.trans (hb.mono HB5.out.size))
              clear hb
              have HRBF := Lib.hid (HRB2.out.keep HB6.out)
              have r0 := HRBF.out.res.cell 0
              have r1 := HRBF.out.res.cell 1
              have r2 := HRBF.out.res.cell 2
              have rf0 := HRBF.out.res.frozen 0
              have rf1 := HRBF.out.res.frozen 1
              have rf2 := HRBF.out.res.frozen 2
              have rl := HRBF.out.res.lt
              go_wp2
              refine bodyPost_ret (v := .tuple #[.agg #[.int .i64 0, .slice none 0 0, .slice none 0 0], .bool false]) ?_ rfl (.inl ⟨HN.out, rfl, ?_⟩)
              · simp [results, Tryz.results10, go_sem, r0, r1, r2]
              · exact ((HRBF.out.below.setCell (p := ⟨w.heap.size + 1, 0, none⟩) (Nat.le_succ _) _).setCell (p := ⟨w.heap.size + 1, 1, none⟩) (Nat.le_succ _) _).setCell (p := ⟨w.heap.size + 1, 2, none⟩) (Nat.le_succ _) _
    · obtain rfl : L.length = m := by omega
      have b0 := hrb.box.cell 0
      have b1 := hrb.box.cell 1
      have b2 := hrb.box.cell 2
      have bl' := hrb.box.lt
      have r0 := hrb.res.cell 0
      have r1 := hrb.res.cell 1
      have r2 := hrb.res.cell 2
      have rf0 := hrb.res.frozen 0
      have rf1 := hrb.res.frozen 1
      have rf2 := hrb.res.frozen 2
      have rl := hrb.res.lt
      clear hrb hfo hsc
      go_wp2
      have hF1 : ¬ F (w.heap.size + 1) := fun e => by have := HFB.out _ e; omega
      refine bodyPost_ret (v := .tuple #[.agg #[.int .i64 (n : Int), .slice I L.length ic, .slice H L.length hc], .bool true]) ?_ rfl (.inr ⟨L, I, ic, H, hc, HSC.out, rfl, ?_, ?_⟩)
      · simp [results, Tryz.results10, go_sem, r0, r1, r2]
      · exact (((HFO.out.set (i := 0) HRB2.out.res (by decide) (by decide) (by decide) hF1 _).set (i := 1) (HRB2.out.res.set 0 _) (by decide) (by decide) (by decide) hF1 _).set (i := 2) ((HRB2.out.res.set 0 _).set 1 _) (by decide) (by decide) (by decide) hF1 _).rc
      · exact ((HRB2.out.below.setCell (p := ⟨w.heap.size + 1, 0, none⟩) (Nat.le_succ _) _).setCell (p := ⟨w.heap.size + 1, 1, none⟩) (Nat.le_succ _) _).setCell (p := ⟨w.heap.size + 1, 2, none⟩) (Nat.le_succ _) _
end
end Clm
end Go.Proofs.YtilolepbfmcbgaaGreatDoor
/- Law 17's Same of what is the same. -/
namespace Go.Proofs.YtilolepbfmcbgaaGreatDoor
open Go.RowKit Go.MapKept
namespace Clm
open Chn (Pt New Prt slots slots_len Mays tot blk blk_len own_keep3 row_cap3 row_base_lt3 own_prt rsame_yes lsame_yes)
open Vol (Vo Hb hb_new hb_grown hb_apart)
open Pack (Nts i64s int_info)

/-- the first free one of one more -/
theorem nf_step (L : List Cl) (t : Nat) : nf L (t + 1) = if nf L t < 0 then (if kd L t = 0 then (t : Int) else -1) else nf L t := by
  have h := Bm.next_is (fun i => kd L i != 0) false t 0
  unfold nf
  rcases h with ⟨e, hno⟩ | ⟨b, e, h1, h2, h3, h4⟩
  · rw [e, if_pos (by omega)]
    by_cases hk : kd L t = 0
    · rw [if_pos hk]
      exact (Bm.Nx.next (.inr ⟨t, rfl, Nat.zero_le _, Nat.lt_succ_self _, by simp [hk], fun c h5 h6 => hno c h5 h6⟩ : Bm.Nx (fun i => kd L i != 0) false (t + 1) 0 (t : Int))).symm
    · rw [if_neg hk]
      refine (Bm.Nx.next (.inl ⟨rfl, fun c h5 h6 => ?_⟩ : Bm.Nx (fun i => kd L i != 0) false (t + 1) 0 (-1))).symm
      by_cases ht : c = t
      · subst ht; simp [hk]
      · exact hno c h5 (by omega)
  · rw [e, if_neg (by omega)]
    exact (Bm.Nx.next (.inr ⟨b, rfl, h1, by omega, h3, h4⟩ : Bm.Nx (fun i => kd L i != 0) false (t + 1) 0 (b : Int))).symm
theorem nf_zero (L : List Cl) : nf L 0 = -1 := rfl
theorem nf_lt (L : List Cl) (t : Nat) : -1 ≤ nf L t ∧ nf L t < (t : Int) := by
  have h := Bm.next_is (fun i => kd L i != 0) false t 0
  unfold nf
  rcases h with ⟨e, _⟩ | ⟨b, e, _, h2, _⟩ <;> rw [e] <;> omega
section
variable {w : World} {P : Pc} {n m s : Nat} {f : Nat → Option (Nat × Nat × Nat)} {L : List Cl} {N C X : Array Value} {I H : Option Addr} {ic hc : Nat}
theorem owner_both (hf : ∀ i x c q, f i = some (x, c, q) → Slo.may (x : Int) (c : Int) (Slo.nx q) = true) (h : Cq w P n m L N C X) (ho : Oks f n s L) (hn : n ≤ 1000) (hm : L.length ≤ 1000) (hr : Rc w I H L) (b : Nat) (hb : b < n) :
    ∃ (vi vk : Int) (ub : Bool), (∀ w', Below w.heap.size w w' → Calls Tryz.prog 47 #[.pointer (some ⟨P.c, 0, none⟩), .int .i64 (b : Int)] w' fun r w'' => r = .returned (.tuple #[.int .i64 vi, .int .i64 vk]) ∧ Below w'.heap.size w' w'') ∧
      (∀ w', Below w.heap.size w w' → Calls Tryz.prog 48 #[.agg #[.int .i64 (n : Int), .slice I L.length ic, .slice H L.length hc], .int .i64 (b : Int)] w' fun r w'' => r = .returned (.tuple #[.int .i64 vi, .int .i64 vk]) ∧ Below w'.heap.size w' w'') ∧
      decide ((0 : Int) ≤ vi) = ub ∧ decide (vi < 0) = !ub ∧ ins (bl L) b = ub := by
  have hm' : ∀ c ∈ L, Mays c.l ∧ c.l.length ≤ 65534 := fun c hc => ⟨(ho.each c hc).mays hf, by have := (ho.each c hc).few; omega⟩
  by_cases hmem : b ∈ bl L
  · obtain ⟨i, k, hik⟩ := mem_own hmem
    refine ⟨(i : Int), (k : Int), true, fun w' hw => owner_yes (h.keep hw) i k b hik hb, fun w' hw => (rowner_any w' I H n ic hc L (hr.keep hw) (by omega) hm' b).mono ?_, decide_eq_true (by omega), decide_eq_false (by omega), decide_eq_true hmem⟩
    rintro r w'' ⟨hto, hb2⟩
    rcases hto with ⟨i', k', h1, rfl⟩ | ⟨h1, _⟩
    · obtain ⟨rfl, rfl⟩ := own_one ho.bl hik h1
      exact ⟨rfl, hb2⟩
    · exact absurd hmem h1
  · refine ⟨-1, -1, false, fun w' hw => owner_no (h.keep hw) (b : Int) (.inr (by simpa using hmem)), fun w' hw => (rowner_any w' I H n ic hc L (hr.keep hw) (by omega) hm' b).mono ?_, by decide, by decide, decide_eq_false hmem⟩
    rintro r w'' ⟨hto, hb2⟩
    rcases hto with ⟨i', k', h1, _⟩ | ⟨_, rfl⟩
    · exact absurd (own_mem h1) hmem
    · exact ⟨rfl, hb2⟩
theorem Oks.zero' {f : Nat → Option (Nat × Nat × Nat)} {n s : Nat} {L : List Cl} (h : Oks f n s L) : ∀ c ∈ L, c.k = 0 → c.p = 0 ∧ c.z = 0 := fun c hc hk => ⟨((h.each c hc).free hk).1, ((h.each c hc).free hk).2.1⟩
/-- how many of the first aren't in it -/
def fc (g : Nat → Bool) (j : Nat) : Nat := j - Bm.cnt g j
theorem fc_step (g : Nat → Bool) (j : Nat) : fc g (j + 1) = fc g j + if g j then 0 else 1 := by
  unfold fc
  have := Bm.cnt_le g j
  rw [Bm.cnt]
  cases g j <;> simp <;> omega
theorem fc_le (g : Nat → Bool) (j : Nat) : fc g j ≤ j := by unfold fc; omega
set_option maxHeartbeats 4000000 in
set_option maxRecDepth 100000 in
theorem csame_yes (hf : ∀ i x c q, f i = some (x, c, q) → Slo.may (x : Int) (c : Int) (Slo.nx q) = true) (h : Cq w P n m L N C X) (hL : L.length = m) (ho : Oks f n s L) (hn : n ≤ 1000) (hm : m ≤ 1000) (hr : Rc w I H L) :
    Calls Tryz.prog 11 #[.pointer (some ⟨P.c, 0, none⟩), .agg #[.int .i64 (n : Int), .slice I m ic, .slice H m hc]] w fun r w' => r = .returned (.bool true) ∧ Below w.heap.size w w' := by
  have HQ := Lib.hid h
  have HR := Lib.hid hr
  have HO := Lib.hid ho
  have HLM := Lib.hid hL
  have HBK := Lib.hid (fun w' (hb : Below w.heap.size w w') => cblocks_any (h.keep hb))
  have HSK := Lib.hid (fun w' (hb : Below w.heap.size w w') => cslots_any (h.keep hb))
  have HB0 := Lib.hid ((Below.refl w.heap.size w).alloc (Nat.le_refl _) (.cells #[.int .i64 (n : Int), .slice I m ic, .slice H m hc] 40))
  have HX0 := Lib.hid (hb_new w #[.int .i64 (n : Int), .slice I m ic, .slice H m hc] 40)
  obtain ⟨i0, hi0, hz0, hz1, hz2⟩ := info_parts int_info
  clear h hr ho hL
  go_enter Tryz.func11, Tryz.ntmps11
  go_wp2_with fail
  generalize w.alloc (.cells #[.int .i64 (n : Int), .slice I m ic, .slice H m hc] 40) = w0 at *
  refine (HBK.out _ HB0.out).mono ?_
  rintro e w1 ⟨p1, q1, C1, rfl, _, _, hm1, hb⟩
  have HM1 := Lib.hid hm1
  have HB1 := Lib.hid (HB0.out.trans (hb.mono HB0.out.size))
  have HX1 := Lib.hid (HX0.out.keep hb)
  clear hb hm1 HBK HX0 HB0
  go_wp2_with fail
  refine (HSK.out _ HB1.out).mono ?_
  rintro e w2 ⟨p2, q2, C2, rfl, _, _, hm2, hb⟩
  have HM2 := Lib.hid hm2
  have HM12 := Lib.hid (HM1.out.keep hb)
  have HB2 := Lib.hid (HB1.out.trans (hb.mono HB1.out.size))
  have HX2 := Lib.hid (HX1.out.keep hb)
  clear hb hm2 HSK HM1 HX1 HB1
  have x1 := HX2.out.cell 1
  have xl := HX2.out.lt
  go_wp2
  clear x1 xl
  have HUL := Lib.hid (ut_len L)
  go_loopw [7, 30] (fun v q wr => ∃ (t : Nat) (G : Option Addr) (gc : Nat), t ≤ m ∧ q = .int .i64 (t : Int) ∧ v = .slice G (ut L t).length gc ∧ wr.ownsRow w2.heap.size 3 1 (.slice G (ut L t).length gc) (ut L t).length (i64s ((ut L t).map Int.ofNat)) ∧ Below w2.heap.size w2 wr) (fun _ q _ => m - (intOf q).toNat)
  case atStart => exact ⟨0, none, 0, Nat.zero_le _, rfl, rfl, World.ownsRow_nil .., Below.refl _ _⟩
  case round =>
    obtain ⟨t, G, gc, ht, rfl, rfl, hrow, hb2⟩ := hrel
    have HROW := Lib.hid hrow
    have HX := Lib.hid (HX2.out.keep hb2)
    have HB := Lib.hid (HB2.out.trans (hb2.mono HB2.out.size))
    have HBZ := Lib.hid hb2
    clear hrow hb2
    by_cases hlt : t < m
    · have htL : t < L.length := by have := HLM.out; omega
      have hRk := HR.out.keep HB.out
      obtain ⟨bi, oi, hI, hbi, n0, n1, n2⟩ := hRk.nds t htL
      obtain ⟨bh, oh, hH, hbh, A', a', D', d', g0, g1, hA', hD'⟩ := hRk.chs t htL
      subst hI hH
      have hck := HO.out.each _ (List.getElem_mem htL)
      have hfw := hck.few
      have HSN := Lib.hid hck.sls_lt
      have HIN := Lib.hid (fun w' (hb : Below w.heap.size w w') => inode_yes (HQ.out.keep hb) HLM.out t htL)
      have HCH := Lib.hid (fun w' (hb : Below w.heap.size w w') => chain_yes (HQ.out.keep hb) HLM.out t htL (by omega))
      have HKD := Lib.hid (kd_get htL)
      generalize L[t] = c at *
      obtain ⟨ck, cp, cz, l⟩ := c
      simp only at n0 n1 n2 g0 g1 hA' hD' HIN HCH HKD HSN hfw
      generalize (cp : Int) - 1 = hd at *
      have hti : (t : Int) < (m : Int) := by omega
      have hxb := HX.out
      have HNX := Lib.hid (hb_new wr #[.int .i64 (ck : Int), .int .i64 hd, .int .i64 (cz : Int)] 95)
      have hal := (Below.refl wr.heap.size wr).alloc (Nat.le_refl _) (.cells #[.int .i64 (ck : Int), .int .i64 hd, .int .i64 (cz : Int)] 95)
      have HA3 := Lib.hid (hA'.keep hal)
      have HD3 := Lib.hid (hD'.keep hal)
      have HB3 := Lib.hid (HB.out.trans (hal.mono HB.out.size))
      have HROW3 := Lib.hid (own_keep3 HROW.out hal)
      have HBZ3 := Lib.hid (HBZ.out.trans (hal.mono HBZ.out.size))
      have h0 := (hal.cell (p := ⟨bh, oh + t * 2, none⟩) hbh).trans g0
      have h1 := (hal.cell (p := ⟨bh, oh + t * 2 + 1, none⟩) hbh).trans g1
      have hbh3 := Nat.lt_of_lt_of_le hbh hal.size
      have x2 := (hxb.keep hal).cell 2
      have xl := (hxb.keep hal).lt
      clear hal hRk hck hxb hA' hD' g0 g1 hbh
      go_wp2
      generalize wr.alloc (.cells #[.int .i64 (ck : Int), .int .i64 hd, .int .i64 (cz : Int)] 95) = w3 at *
      generalize wr.heap.size = nb at *
      have y0 := HNX.out.cell 0
      have y1 := HNX.out.cell 1
      have y2 := HNX.out.cell 2
      have yl := HNX.out.lt
      have hdr := drewN_below w3 1
      have HBD := Lib.hid (show Below w.heap.size w w3.drew from HB3.out.trans (hdr.mono HB3.out.size))
      have HIN3 := Lib.hid (HIN.out w3.drew HBD.out)
      have HREF := Lib.hid (fun w => Ino.ref_any w (ck : Int) hd (cz : Int))
      clear hdr
      have HSS := Lib.hid (fun W' (hb : Below w3.heap.size w3 W') => show W'.cell? ⟨nb, 0, none⟩ = some (.int .i64 (ck : Int)) ∧ W'.cell? ⟨nb, 1, none⟩ = some (.int .i64 hd) ∧ W'.cell? ⟨nb, 2, none⟩ = some (.int .i64 (cz : Int)) ∧ W'.cell? ⟨w.heap.size, 2, none⟩ = some (.slice (some ⟨bh, oh, none⟩) m hc) ∧ W'.cell? ⟨bh, oh + t * 2, none⟩ = some (.slice A' l.length a') ∧ W'.cell? ⟨bh, oh + t * 2 + 1, none⟩ = some (.slice D' l.length d') from
        ⟨(hb.cell (p := ⟨nb, 0, none⟩) yl).trans y0, (hb.cell (p := ⟨nb, 1, none⟩) yl).trans y1, (hb.cell (p := ⟨nb, 2, none⟩) yl).trans y2, (hb.cell (p := ⟨w.heap.size, 2, none⟩) xl).trans x2, (hb.cell (p := ⟨bh, oh + t * 2, none⟩) hbh3).trans h0, (hb.cell (p := ⟨bh, oh + t * 2 + 1, none⟩) hbh3).trans h1⟩)
      go_region_held3 (fun W' => W'.cell? ⟨nb, 0, none⟩ = some (.int .i64 (ck : Int)) ∧ W'.cell? ⟨nb, 1, none⟩ = some (.int .i64 hd) ∧ W'.cell? ⟨nb, 2, none⟩ = some (.int .i64 (cz : Int)) ∧ W'.cell? ⟨w.heap.size, 2, none⟩ = some (.slice (some ⟨bh, oh, none⟩) m hc) ∧ W'.cell? ⟨bh, oh + t * 2, none⟩ = some (.slice A' l.length a') ∧ W'.cell? ⟨bh, oh + t * 2 + 1, none⟩ = some (.slice D' l.length d')) (go_keep)
        (first
        | (go_at_call 17
           with_reducible refine HIN3.out.mono ?_
           rintro r w4 ⟨rfl, hb⟩
           have HW4 := Lib.hid (show Below w3.heap.size w3 w4 from (drewN_below w3 1).trans (hb.mono (drewN_below w3 1).size))
           obtain ⟨a0, a1, a2, a3, a4, a5⟩ := HSS.out w4 HW4.out
           clear hb)
        | (go_at_call 45
           with_reducible refine (HREF.out _).mono ?_
           rintro r w5 ⟨rfl, hb⟩
           have HW5 := Lib.hid (HW4.out.trans (hb.mono HW4.out.size))
           have HCH5 := Lib.hid (HCH.out w5 (HB3.out.trans (HW5.out.mono HB3.out.size)))
           obtain ⟨b0, b1, b2, b3, b4, b5⟩ := HSS.out w5 HW5.out
           clear hb)
        | (go_at_call 19
           with_reducible refine HCH5.out.mono ?_
           rintro r w6 ⟨A8, a8, D8, d8, rfl, ho, hp, hb⟩
           have HW6 := Lib.hid (HW5.out.trans (hb.mono HW5.out.size))
           have HLS := Lib.hid (lsame_yes w6 A8 D8 A' D' a8 d8 a' d' l (by omega) (Pack.own_nts ho (fun x hx => by
             obtain ⟨p, hp, rfl⟩ := List.mem_map.1 hx
             have := HSN.out p.s (List.mem_map.2 ⟨p, hp, rfl⟩)
             omega) (by omega)) (HA3.out.keep HW6.out) (own_prt hp).1 (HD3.out.keep HW6.out))
           obtain ⟨c0, c1, c2, c3, c4, c5⟩ := HSS.out w6 HW6.out
           clear hb ho hp)
        | (go_at_call 46
           with_reducible refine HLS.out.mono ?_
           rintro r w7 ⟨rfl, hb⟩
           have HW7 := Lib.hid (HW6.out.trans (hb.mono HW6.out.size))
           obtain ⟨d0, d1, d2, d3, d4, d5⟩ := HSS.out w7 HW7.out
           clear hb))
      have HROW7 := Lib.hid (own_keep3 HROW3.out HW7.out)
      have HBZ7 := Lib.hid (HBZ3.out.trans (HW7.out.mono HBZ3.out.size))
      have hb7 := HB3.out.trans (HW7.out.mono HB3.out.size)
      have HB7 := Lib.hid hb7
      have nl7 := Nat.lt_of_lt_of_le yl HW7.out.size
      have hul := HUL.out t
      clear hb7 HCH HIN HSS
      by_cases hk : ck = 0
      · have HU := Lib.hid (ut_no (show kd L t = 0 by rw [HKD.out]; exact hk))
        subst hk
        go_wp2
        exact ⟨⟨t + 1, G, gc, by omega, by go_num, by rw [HU.out], by rw [HU.out]; exact HROW7.out, HBZ7.out⟩, by simp [intOf]; omega⟩
      · have HU := Lib.hid (ut_yes (show kd L t ≠ 0 by rw [HKD.out]; exact hk))
        have hkb : ((ck : Int) == 0) = false := beq_eq_false_iff_ne.2 (by omega)
        have hkc : ((ck : Int) != 0) = true := by simp only [bne, hkb]; rfl
        have HO7 := Lib.hid HROW7.out
        have HO8 := Lib.hid (HO7.out.alloc (.cells #[.int .i64 (t : Int)] 3))
        have hws := HBZ7.out.size
        clear hk
        go_wp2_with (at_builtin
                     refine wpList_append_own_at _ rfl (.tmp 56) (.tmp 58) 50 rfl w2.heap.size 3 i0 (.int .i64 0) 1 8 Tryz.underlying50 hi0 hz0 hz1 hz2 rfl (by decide) (.slice G (ut L t).length gc) (ut L t).length (i64s ((ut L t).map Int.ofNat)) rfl HO8.out ⟨w7.heap.size, 0, none⟩ 1 1 [.int .i64 (t : Int)] rfl rfl (cell_one_new _ _ _) (by simp [Value.oneCell']) (by unfold maxLen; omega) (by omega) (by simp; omega) ?_
                     intro v9 w9 hown9 hgr9 _ hat9
                     obtain ⟨G9, c9, rfl⟩ := Pack.row_slice hown9
                     have hal9 := (Below.refl w7.heap.size w7).alloc (Nat.le_refl _) (.cells #[.int .i64 (t : Int)] 3)
                     have HB9 := Lib.hid ((HBZ7.out.trans (hal9.mono HBZ7.out.size)).grown hgr9 (HBZ7.out.trans (hal9.mono HBZ7.out.size)).size (fun _ hk => row_base_lt3 HO7.out hk))
                     have HO9 := Lib.hid hown9
                     clear hown9 hgr9 hat9 hal9)
        refine ⟨⟨t + 1, G9, c9, by omega, by go_num, by rw [HU.out]; simp, ?_, HB9.out⟩, by simp [intOf]; omega⟩
        have h6 := HO9.out
        rw [HU.out]
        unfold i64s at h6 ⊢
        simp only [List.map_append, List.length_append]
        exact h6
    · obtain rfl : t = m := by omega
      have hx := HX.out
      have x1 := hx.cell 1
      have xl := hx.lt
      clear hx
      go_wp2
      clear x1 xl
      go_loopw [10, 64] (fun v q wq => ∃ j : Nat, j ≤ t ∧ q = .int .i64 (j : Int) ∧ v = .int .i64 (nf L j) ∧ Below wr.heap.size wr wq) (fun _ q _ => t - (intOf q).toNat)
      case atStart => exact ⟨0, Nat.zero_le _, rfl, by rw [nf_zero], Below.refl _ _⟩
      case round =>
        obtain ⟨j, hj, rfl, rfl, hbq⟩ := hrel
        have HBQ := Lib.hid hbq
        by_cases hlt2 : j < t
        · have hjL : j < L.length := by have := HLM.out; omega
          obtain ⟨bi, oi, hI, hbi, n0, n1, n2⟩ := (HR.out.keep (HB.out.trans (hbq.mono HB.out.size))).nds j hjL
          subst hI
          have HKD := Lib.hid (kd_get hjL)
          have HNF := Lib.hid (nf_step L j)
          generalize L[j] = c at *
          obtain ⟨ck, cp, cz, l⟩ := c
          simp only at n0 n1 n2 HKD
          generalize (cp : Int) - 1 = hd at *
          have hti : (j : Int) < (t : Int) := by omega
          have hal := (Below.refl wr.heap.size wr).alloc (Nat.le_refl _) (.cells #[.int .i64 (ck : Int), .int .i64 hd, .int .i64 (cz : Int)] 95)
          have HBA := Lib.hid (HBQ.out.trans (hal.mono HBQ.out.size))
          clear hal hbq
          have hnl := nf_lt L j
          generalize nf L j = nx at *
          by_cases hk : ck = 0
          · subst hk
            by_cases hnx : nx < 0
            · have HNN := Lib.hid (show nf L (j + 1) = (j : Int) by rw [HNF.out, if_pos hnx, if_pos (by rw [HKD.out])])
              have hnb : decide (nx < 0) = true := decide_eq_true hnx
              go_wp2
              exact ⟨⟨j + 1, by omega, by go_num, by rw [HNN.out], HBA.out⟩, by simp [intOf]; omega⟩
            · have HNN := Lib.hid (show nf L (j + 1) = nx by rw [HNF.out, if_neg hnx])
              have hnb : decide (nx < 0) = false := decide_eq_false hnx
              go_wp2
              exact ⟨⟨j + 1, by omega, by go_num, by rw [HNN.out], HBA.out⟩, by simp [intOf]; omega⟩
          · have HNN := Lib.hid (show nf L (j + 1) = nx by
              rw [HNF.out, HKD.out, if_neg hk]
              split
              · omega
              · rfl)
            have hkb : ((ck : Int) == 0) = false := beq_eq_false_iff_ne.2 (by omega)
            go_wp2
            exact ⟨⟨j + 1, by omega, by go_num, by rw [HNN.out], HBA.out⟩, by simp [intOf]; omega⟩
        · obtain rfl : j = t := by omega
          have HROW9 := Lib.hid (own_keep3 HROW.out hbq)
          have HX9 := Lib.hid (HX.out.keep hbq)
          have HB9 := Lib.hid (HB.out.trans (hbq.mono HB.out.size))
          have HBZ9 := Lib.hid (HBZ.out.trans (hbq.mono HBZ.out.size))
          clear hbq HBQ
          have hx := HX9.out
          have x0 := hx.cell 0
          have xl := hx.lt
          clear hx
          go_wp2
          clear x0 xl
          go_loopw [11, 12, 80] (fun v11 v12 q wq => ∃ b : Nat, b ≤ n ∧ q = .int .i64 (b : Int) ∧ v11 = .int .i64 (fc (ins (bl L)) b : Nat) ∧ v12 = .int .i64 (fc (ins (sl L)) b : Nat) ∧ Below wr.heap.size wr wq) (fun _ _ q _ => n - (intOf q).toNat)
          case atStart => exact ⟨0, Nat.zero_le _, rfl, rfl, rfl, Below.refl _ _⟩
          case round =>
            obtain ⟨b, hbn, rfl, rfl, rfl, hbq⟩ := hrel
            by_cases hlt3 : b < n
            · have HBQ := Lib.hid hbq
              have hbw := HB9.out.trans (hbq.mono HB9.out.size)
              obtain ⟨vi, vk, ub, hown, hrown, hge, hl0, hub⟩ := owner_both (ic := ic) (hc := hc) hf (HQ.out.keep hbw) HO.out hn (by have := HLM.out; omega) (HR.out.keep hbw) b hlt3
              have hrsl := fun w' (hb : Below wr.heap.size wr w') => rslot_any w' I H n ic hc L ((HR.out.keep hbw).keep hb) (by have := HLM.out; omega) b
              rw [HLM.out] at hrown hrsl
              obtain ⟨us, hus⟩ : ∃ us, us = ins (sl L) b := ⟨_, rfl⟩
              have hhb := fun w' (hb : Below wr.heap.size wr w') => Bm.has_any ((HM12.out.keep (HBZ9.out.trans (hbq.mono HBZ9.out.size))).keep hb) (b : Int)
              have hhs := fun w' (hb : Below wr.heap.size wr w') => Bm.has_any ((HM2.out.keep (HBZ9.out.trans (hbq.mono HBZ9.out.size))).keep hb) (b : Int)
              simp only [Bm.hs_nat] at hhb hhs
              have hs1 := fc_step (ins (bl L)) b
              have hs2 := fc_step (ins (sl L)) b
              have hf1 := fc_le (ins (bl L)) b
              have hf2 := fc_le (ins (sl L)) b
              rw [hub] at hhb hs1
              rw [← hus] at hhs hs2
              have e3 : decide (b ∈ sl L) = us := by rw [hus]; rfl
              rw [e3] at hrsl
              have HS1 := Lib.hid hs1
              have HS2 := Lib.hid hs2
              have HOW := Lib.hid (hown wr (Below.refl _ _))
              have HRO := Lib.hid hrown
              have HRS := Lib.hid hrsl
              have HHB := Lib.hid hhb
              have HHS := Lib.hid hhs
              have HXQ := Lib.hid (HX9.out.keep hbq)
              clear hs1 hs2 hown hrown hrsl hhb hhs e3 hus hub hbq hbw
              generalize fc (ins (bl L)) b = c1 at *
              generalize fc (ins (sl L)) b = c2 at *
              have hbi : (b : Int) < (n : Int) := by omega
              go_wp2_with fail
              refine HOW.out.mono ?_
              rintro e w7 ⟨rfl, hb⟩
              have HB7 := Lib.hid hb
              have x0 := (HXQ.out.keep hb).cell 0
              have x1 := (HXQ.out.keep hb).cell 1
              have x2 := (HXQ.out.keep hb).cell 2
              have xl := (HXQ.out.keep hb).lt
              clear hb
              go_wp2_with fail
              refine (HRO.out w7 HB7.out).mono ?_
              rintro e w8 ⟨rfl, hb⟩
              have HB8 := Lib.hid (HB7.out.trans (hb.mono HB7.out.size))
              clear hb x0 x1 x2 xl
              have y0 := (HXQ.out.keep HB8.out).cell 0
              have y1 := (HXQ.out.keep HB8.out).cell 1
              have y2 := (HXQ.out.keep HB8.out).cell 2
              have yl := (HXQ.out.keep HB8.out).lt
              have HBD := Lib.hid (show Below wr.heap.size wr w8.drew from HB8.out.trans ((drewN_below w8 1).mono HB8.out.size))
              have HHB8 := Lib.hid (HHB.out w8.drew HBD.out)
              cases ub
              · cases us
                · go_wp2_with fail
                  go_region_held3 (fun W' => W'.cell? ⟨w.heap.size, 0, none⟩ = some (.int .i64 (n : Int)) ∧ W'.cell? ⟨w.heap.size, 1, none⟩ = some (.slice I j ic) ∧ W'.cell? ⟨w.heap.size, 2, none⟩ = some (.slice H j hc)) (go_keep)
                    (first
                    | (go_at_call 49
                       with_reducible refine HHB8.out.mono ?_
                       rintro r w9 ⟨rfl, k9, hk9⟩
                       have HB9' := Lib.hid (show Below wr.heap.size wr w9 by rw [hk9]; exact HBD.out.trans ((drewN_below w8.drew k9).mono HBD.out.size))
                       have HHS9 := Lib.hid (HHS.out w9 HB9'.out)
                       have z0 := (HXQ.out.keep HB9'.out).cell 0
                       have z1 := (HXQ.out.keep HB9'.out).cell 1
                       have z2 := (HXQ.out.keep HB9'.out).cell 2
                       clear hk9)
                    | (go_at_call 49
                       with_reducible refine HHS9.out.mono ?_
                       rintro r w10 ⟨rfl, k10, hk10⟩
                       have HB10 := Lib.hid (show Below wr.heap.size wr w10 by rw [hk10]; exact HB9'.out.trans ((drewN_below w9 k10).mono HB9'.out.size))
                       have HRS10 := Lib.hid (HRS.out w10 HB10.out)
                       have u0 := (HXQ.out.keep HB10.out).cell 0
                       have u1 := (HXQ.out.keep HB10.out).cell 1
                       have u2 := (HXQ.out.keep HB10.out).cell 2
                       clear hk10)
                    | (go_at_call 14
                       with_reducible refine HRS10.out.mono ?_
                       rintro r w11 ⟨rfl, hb⟩
                       have HB11 := Lib.hid (HB10.out.trans (hb.mono HB10.out.size))
                       have HRS11 := Lib.hid (HRS.out w11 HB11.out)
                       have m0 := (HXQ.out.keep HB11.out).cell 0
                       have m1 := (HXQ.out.keep HB11.out).cell 1
                       have m2 := (HXQ.out.keep HB11.out).cell 2
                       have ml := (HXQ.out.keep HB11.out).lt
                       clear hb))
                  go_wp2_with fail
                  refine HRS11.out.mono ?_
                  rintro r w12 ⟨rfl, hb⟩
                  have HB12 := Lib.hid (HBQ.out.trans ((HB11.out.trans (hb.mono HB11.out.size)).mono HBQ.out.size))
                  clear hb
                  go_wp2
                  have hs1 := HS1.out
                  have hs2 := HS2.out
                  simp only [Bool.false_eq_true, if_false] at hs1 hs2
                  refine ⟨⟨b + 1, by omega, by go_num, by rw [hs1]; go_num, by rw [hs2]; go_num, HB12.out⟩, by simp [intOf]; omega⟩
                · go_wp2_with fail
                  go_region_held3 (fun W' => W'.cell? ⟨w.heap.size, 0, none⟩ = some (.int .i64 (n : Int)) ∧ W'.cell? ⟨w.heap.size, 1, none⟩ = some (.slice I j ic) ∧ W'.cell? ⟨w.heap.size, 2, none⟩ = some (.slice H j hc)) (go_keep)
                    (first
                    | (go_at_call 49
                       with_reducible refine HHB8.out.mono ?_
                       rintro r w9 ⟨rfl, k9, hk9⟩
                       have HB9' := Lib.hid (show Below wr.heap.size wr w9 by rw [hk9]; exact HBD.out.trans ((drewN_below w8.drew k9).mono HBD.out.size))
                       have HHS9 := Lib.hid (HHS.out w9 HB9'.out)
                       have z0 := (HXQ.out.keep HB9'.out).cell 0
                       have z1 := (HXQ.out.keep HB9'.out).cell 1
                       have z2 := (HXQ.out.keep HB9'.out).cell 2
                       clear hk9)
                    | (go_at_call 49
                       with_reducible refine HHS9.out.mono ?_
                       rintro r w10 ⟨rfl, k10, hk10⟩
                       have HB10 := Lib.hid (show Below wr.heap.size wr w10 by rw [hk10]; exact HB9'.out.trans ((drewN_below w9 k10).mono HB9'.out.size))
                       have HRS10 := Lib.hid (HRS.out w10 HB10.out)
                       have u0 := (HXQ.out.keep HB10.out).cell 0
                       have u1 := (HXQ.out.keep HB10.out).cell 1
                       have u2 := (HXQ.out.keep HB10.out).cell 2
                       clear hk10)
                    | (go_at_call 14
                       with_reducible refine HRS10.out.mono ?_
                       rintro r w11 ⟨rfl, hb⟩
                       have HB11 := Lib.hid (HB10.out.trans (hb.mono HB10.out.size))
                       have HRS11 := Lib.hid (HRS.out w11 HB11.out)
                       have m0 := (HXQ.out.keep HB11.out).cell 0
                       have m1 := (HXQ.out.keep HB11.out).cell 1
                       have m2 := (HXQ.out.keep HB11.out).cell 2
                       have ml := (HXQ.out.keep HB11.out).lt
                       clear hb))
                  go_wp2_with fail
                  refine HRS11.out.mono ?_
                  rintro r w12 ⟨rfl, hb⟩
                  have HB12 := Lib.hid (HBQ.out.trans ((HB11.out.trans (hb.mono HB11.out.size)).mono HBQ.out.size))
                  clear hb
                  go_wp2
                  have hs1 := HS1.out
                  have hs2 := HS2.out
                  simp only [Bool.false_eq_true, if_true, if_false] at hs1 hs2
                  refine ⟨⟨b + 1, by omega, by go_num, by rw [hs1]; go_num, by rw [hs2]; go_num, HB12.out⟩, by simp [intOf]; omega⟩
              · cases us
                · go_wp2_with fail
                  go_region_held3 (fun W' => W'.cell? ⟨w.heap.size, 0, none⟩ = some (.int .i64 (n : Int)) ∧ W'.cell? ⟨w.heap.size, 1, none⟩ = some (.slice I j ic) ∧ W'.cell? ⟨w.heap.size, 2, none⟩ = some (.slice H j hc)) (go_keep)
                    (first
                    | (go_at_call 49
                       with_reducible refine HHB8.out.mono ?_
                       rintro r w9 ⟨rfl, k9, hk9⟩
                       have HB9' := Lib.hid (show Below wr.heap.size wr w9 by rw [hk9]; exact HBD.out.trans ((drewN_below w8.drew k9).mono HBD.out.size))
                       have HHS9 := Lib.hid (HHS.out w9 HB9'.out)
                       have z0 := (HXQ.out.keep HB9'.out).cell 0
                       have z1 := (HXQ.out.keep HB9'.out).cell 1
                       have z2 := (HXQ.out.keep HB9'.out).cell 2
                       clear hk9)
                    | (go_at_call 49
                       with_reducible refine HHS9.out.mono ?_
                       rintro r w10 ⟨rfl, k10, hk10⟩
                       have HB10 := Lib.hid (show Below wr.heap.size wr w10 by rw [hk10]; exact HB9'.out.trans ((drewN_below w9 k10).mono HB9'.out.size))
                       have HRS10 := Lib.hid (HRS.out w10 HB10.out)
                       have u0 := (HXQ.out.keep HB10.out).cell 0
                       have u1 := (HXQ.out.keep HB10.out).cell 1
                       have u2 := (HXQ.out.keep HB10.out).cell 2
                       clear hk10)
                    | (go_at_call 14
                       with_reducible refine HRS10.out.mono ?_
                       rintro r w11 ⟨rfl, hb⟩
                       have HB11 := Lib.hid (HB10.out.trans (hb.mono HB10.out.size))
                       have HRS11 := Lib.hid (HRS.out w11 HB11.out)
                       have m0 := (HXQ.out.keep HB11.out).cell 0
                       have m1 := (HXQ.out.keep HB11.out).cell 1
                       have m2 := (HXQ.out.keep HB11.out).cell 2
                       have ml := (HXQ.out.keep HB11.out).lt
                       clear hb))
                  go_wp2_with fail
                  refine HRS11.out.mono ?_
                  rintro r w12 ⟨rfl, hb⟩
                  have HB12 := Lib.hid (HBQ.out.trans ((HB11.out.trans (hb.mono HB11.out.size)).mono HBQ.out.size))
                  clear hb
                  go_wp2
                  have hs1 := HS1.out
                  have hs2 := HS2.out
                  simp only [Bool.false_eq_true, if_true, if_false] at hs1 hs2
                  refine ⟨⟨b + 1, by omega, by go_num, by rw [hs1]; go_num, by rw [hs2]; go_num, HB12.out⟩, by simp [intOf]; omega⟩
                · go_wp2_with fail
                  go_region_held3 (fun W' => W'.cell? ⟨w.heap.size, 0, none⟩ = some (.int .i64 (n : Int)) ∧ W'.cell? ⟨w.heap.size, 1, none⟩ = some (.slice I j ic) ∧ W'.cell? ⟨w.heap.size, 2, none⟩ = some (.slice H j hc)) (go_keep)
                    (first
                    | (go_at_call 49
                       with_reducible refine HHB8.out.mono ?_
                       rintro r w9 ⟨rfl, k9, hk9⟩
                       have HB9' := Lib.hid (show Below wr.heap.size wr w9 by rw [hk9]; exact HBD.out.trans ((drewN_below w8.drew k9).mono HBD.out.size))
                       have HHS9 := Lib.hid (HHS.out w9 HB9'.out)
                       have z0 := (HXQ.out.keep HB9'.out).cell 0
                       have z1 := (HXQ.out.keep HB9'.out).cell 1
                       have z2 := (HXQ.out.keep HB9'.out).cell 2
                       clear hk9)
                    | (go_at_call 49
                       with_reducible refine HHS9.out.mono ?_
                       rintro r w10 ⟨rfl, k10, hk10⟩
                       have HB10 := Lib.hid (show Below wr.heap.size wr w10 by rw [hk10]; exact HB9'.out.trans ((drewN_below w9 k10).mono HB9'.out.size))
                       have HRS10 := Lib.hid (HRS.out w10 HB10.out)
                       have u0 := (HXQ.out.keep HB10.out).cell 0
                       have u1 := (HXQ.out.keep HB10.out).cell 1
                       have u2 := (HXQ.out.keep HB10.out).cell 2
                       clear hk10)
                    | (go_at_call 14
                       with_reducible refine HRS10.out.mono ?_
                       rintro r w11 ⟨rfl, hb⟩
                       have HB11 := Lib.hid (HB10.out.trans (hb.mono HB10.out.size))
                       have HRS11 := Lib.hid (HRS.out w11 HB11.out)
                       have m0 := (HXQ.out.keep HB11.out).cell 0
                       have m1 := (HXQ.out.keep HB11.out).cell 1
                       have m2 := (HXQ.out.keep HB11.out).cell 2
                       have ml := (HXQ.out.keep HB11.out).lt
                       clear hb))
                  go_wp2_with fail
                  refine HRS11.out.mono ?_
                  rintro r w12 ⟨rfl, hb⟩
                  have HB12 := Lib.hid (HBQ.out.trans ((HB11.out.trans (hb.mono HB11.out.size)).mono HBQ.out.size))
                  clear hb
                  go_wp2
                  have hs1 := HS1.out
                  have hs2 := HS2.out
                  simp only [if_true] at hs1 hs2
                  refine ⟨⟨b + 1, by omega, by go_num, by rw [hs1]; go_num, by rw [hs2]; go_num, HB12.out⟩, by simp [intOf]; omega⟩
            · have hbe : b = n := by omega
              subst hbe
              have HBW := Lib.hid (HB9.out.trans (hbq.mono HB9.out.size))
              have HXQ := Lib.hid (HX9.out.keep hbq)
              have HNU := Lib.hid (show Nts wr _ _ from Pack.own_nts (own_keep3 HROW9.out hbq) (fun x hx => by
                obtain ⟨y, hy, rfl⟩ := List.mem_map.1 hx
                have := ut_lt y hy
                simp only [Int.ofNat_eq_natCast]
                omega) (by have := HUL.out j; omega))
              have HP1 := Lib.hid (HM12.out.keep (HBZ9.out.trans (hbq.mono HBZ9.out.size)))
              have HP2 := Lib.hid (HM2.out.keep (HBZ9.out.trans (hbq.mono HBZ9.out.size)))
              have hfr := free_any (HQ.out.keep HBW.out) HLM.out HO.out.zero'
              rw [show b - Bm.cnt (ins (bl L)) b = fc (ins (bl L)) b from rfl, show b - Bm.cnt (ins (sl L)) b = fc (ins (sl L)) b from rfl] at hfr
              have HFR := Lib.hid hfr
              have hul := HUL.out j
              clear hbq hfr
              generalize fc (ins (bl L)) b = c1 at *
              generalize fc (ins (sl L)) b = c2 at *
              have hwr : IntKind.i64.wrap ((j : Int) - ((ut L j).length : Nat)) = (j : Int) - ((ut L j).length : Nat) := IntWalk.i64_in _ (by omega)
              go_wp2_with fail
              refine HFR.out.mono ?_
              rintro r w5 ⟨rfl, hb⟩
              have HB5 := Lib.hid hb
              have HBD := Lib.hid (show Below wr.heap.size wr w5.drew from HB5.out.trans ((drewN_below w5 1).mono HB5.out.size))
              clear hb HFR
              have HUS := Lib.hid (used_any ((HQ.out.keep HBW.out).keep HBD.out) HLM.out HO.out.zero')
              have x0 := (HXQ.out.keep HB5.out).cell 0
              have x1 := (HXQ.out.keep HB5.out).cell 1
              have x2 := (HXQ.out.keep HB5.out).cell 2
              have xl := (HXQ.out.keep HB5.out).lt
              go_wp2_with fail
              go_region_held3 (fun W' => W'.cell? ⟨w.heap.size, 0, none⟩ = some (.int .i64 (b : Int)) ∧ W'.cell? ⟨w.heap.size, 1, none⟩ = some (.slice I j ic) ∧ W'.cell? ⟨w.heap.size, 2, none⟩ = some (.slice H j hc)) (go_keep)
                (first
                | (go_at_call 21
                   with_reducible refine HUS.out.mono ?_
                   rintro r w6 ⟨G6, c6, rfl, hn6, hb⟩
                   have HB6 := Lib.hid (HBD.out.trans (hb.mono HBD.out.size))
                   have hsm := rsame_yes w6 G6 G c6 gc ((ut L j).map Int.ofNat) hn6 (HNU.out.keep HB6.out)
                   rw [List.length_map] at hsm
                   have HSM := Lib.hid hsm
                   have y0 := (HXQ.out.keep HB6.out).cell 0
                   have y1 := (HXQ.out.keep HB6.out).cell 1
                   have y2 := (HXQ.out.keep HB6.out).cell 2
                   clear hsm hn6 hb)
                | (go_at_call 15
                   with_reducible refine HSM.out.mono ?_
                   rintro r w7 ⟨rfl, hb⟩
                   have HB7 := Lib.hid (HB6.out.trans (hb.mono HB6.out.size))
                   have HNI := Lib.hid (nextInode_any ((HQ.out.keep HBW.out).keep HB7.out) HLM.out HO.out.zero')
                   have z0 := (HXQ.out.keep HB7.out).cell 0
                   have z1 := (HXQ.out.keep HB7.out).cell 1
                   have z2 := (HXQ.out.keep HB7.out).cell 2
                   clear hb)
                | (go_at_call 33
                   with_reducible refine HNI.out.mono ?_
                   rintro r w8 ⟨rfl, hb⟩
                   have HB8 := Lib.hid (HB7.out.trans (hb.mono HB7.out.size))
                   have HL1 := Lib.hid (Bm.len_any (HP1.out.keep HB8.out))
                   have HL2 := Lib.hid (Bm.len_any (HP2.out.keep HB8.out))
                   have u0 := (HXQ.out.keep HB8.out).cell 0
                   have u1 := (HXQ.out.keep HB8.out).cell 1
                   have u2 := (HXQ.out.keep HB8.out).cell 2
                   clear hb)
                | (go_at_call 50
                   with_reducible refine HL1.out.mono ?_
                   rintro r w9 ⟨rfl, rfl⟩)
                | (go_at_call 50
                   with_reducible refine HL2.out.mono ?_
                   rintro r w9 ⟨rfl, rfl⟩))
              go_wp2
              go_ret
              exact ⟨rfl, HBW.out.trans (HB8.out.mono HBW.out.size)⟩
end
end Clm
end Go.Proofs.YtilolepbfmcbgaaGreatDoor
/- ClaimScans, walked. -/
namespace Go.Proofs.YtilolepbfmcbgaaGreatDoor
open Go.RowKit Go.MapKept
namespace Clm
open Chn (Pt New Prt slots slots_len Mays tot blk blk_len rd pat fw own_prt own_keep3 row_cap3 row_base_lt3 rsame_yes)
open Vol (Vo Hb hb_new Ov Pl gn gs dv rawW rawW_len rdw)
open Pack (Nts i64s int_info)

theorem tk_yes {f : Nat → Bool} {t k : Nat} {R : List Nat} (hR : R = (fre f t).take k) (h : f t = false) (hl : R.length < k) : R ++ [t] = (fre f (t + 1)).take k := by
  rw [hR, List.length_take] at hl
  have h1 : (fre f t).length < k := by omega
  rw [fre_yes h, hR, List.take_of_length_le (by omega), List.take_of_length_le (by simp; omega)]
theorem tk_full {f : Nat → Bool} {t k : Nat} {R : List Nat} (hR : R = (fre f t).take k) (h : f t = false) (hl : ¬ R.length < k) : R = (fre f (t + 1)).take k := by
  rw [hR, List.length_take] at hl
  rw [fre_yes h, hR, List.take_append_of_le_length (by omega)]
theorem run_slots (x y : Value) (W : World) : (Instr.field 63 (.agg #[x, y]) 0).run Tryz.prog W = .ok x W := by kernel_rfl
section
variable {ws : List Nat}
set_option maxHeartbeats 4000000 in
set_option maxRecDepth 100000 in
theorem scans_law (w : World) (hT : Bm.Tab w) (x y k : Nat) (hx : x < 256) (hy : y < 256) (hk : k < 256) (A : Option Addr) (c : Nat) (hws : Pack.Wds w A ws) (q : Int) (hq : -9223372036854775808 ≤ q ∧ q ≤ 9223372036854775807) :
    Calls Tryz.prog 3 #[.agg #[.int .u8 (x : Int), .int .u8 (y : Int), .int .u8 (k : Int), .slice A ws.length c], .int .i64 q] w fun r w' => r = .returned (.bool true) ∧ Below w.heap.size w w' := by
  obtain ⟨sl', bm', bk', E, hpl⟩ := Vol.pl_any x y k
  have HL := Lib.hid (fun w' (hb : Below w.heap.size w w') => lives_any w' (hT.below hb hT.lt))
  have HO := Lib.hid (fun w' (hb : Below w.heap.size w w') => kopen_any w' x y k hx hy hk A c (hws.keep hb) hpl)
  have HPL := Lib.hid hpl
  have HT := Lib.hid (fun w' (hb : Below w.heap.size w w') => hT.below hb hT.lt)
  have hn20 := hpl.n20
  have hm20 := hpl.m20
  obtain ⟨n, hn⟩ : ∃ n, n = gn x := ⟨_, rfl⟩
  obtain ⟨m, hm⟩ : ∃ m, m = gn y := ⟨_, rfl⟩
  obtain ⟨s, hs⟩ : ∃ s, s = gs k := ⟨_, rfl⟩
  rw [← hn, ← hm, ← hs] at HO HPL
  rw [← hn] at hn20
  rw [← hm] at hm20
  clear hn hm hs hpl hT hws
  go_enter Tryz.func3, Tryz.ntmps3
  have HB0 := Lib.hid ((Below.refl w.heap.size w).alloc (Nat.le_refl _) (.cells #[.int .u8 (x : Int), .int .u8 (y : Int), .int .u8 (k : Int), .slice A ws.length c] 24))
  have HR0 := Lib.hid (hb_new w #[.int .u8 (x : Int), .int .u8 (y : Int), .int .u8 (k : Int), .slice A ws.length c] 24)
  go_wp2_with fail
  generalize w.alloc (.cells #[.int .u8 (x : Int), .int .u8 (y : Int), .int .u8 (k : Int), .slice A ws.length c] 24) = w0 at *
  refine (HL.out _ HB0.out).mono ?_
  rintro e w1 ⟨rfl, hb⟩
  have HB1 := Lib.hid (HB0.out.trans (hb.mono HB0.out.size))
  have HR1 := HR0.out.keep hb
  clear hb HL HB0 HR0
  have r0 := HR1.cell 0
  have r1 := HR1.cell 1
  have r2 := HR1.cell 2
  have r3 := HR1.cell 3
  have rl := HR1.lt
  clear HR1
  go_wp2_with fail
  refine (HO.out _ HB1.out).mono ?_
  rintro e w3 ⟨Q, vb, a, g, gc, rfl, hov⟩
  clear r0 r1 r2 r3 rl
  have hb4 := (Below.refl w3.heap.size w3).alloc (Nat.le_refl _) (.cells (dv n m s sl' bm' bk' E (.slice (some ⟨g, 0, none⟩) E gc)) 30)
  have HV4 := Lib.hid (hov.vo.keep hb4)
  have HB4 := Lib.hid ((HB1.out.trans (hov.below.mono HB1.out.size)).trans (hb4.mono (Nat.le_trans HB1.out.size hov.below.size)))
  have HX4 := Lib.hid (hb_new w3 (dv n m s sl' bm' bk' E (.slice (some ⟨g, 0, none⟩) E gc)) 30)
  have HD4 := Lib.hid (hov.wds.keep hb4)
  have HLN := Lib.hid hov.len
  have HCP := Lib.hid hov.cap
  clear hov hb4 HO HB1
  unfold dv at HV4 HB4 HX4 HD4 ⊢
  go_wp2_with fail
  generalize w3.alloc (.cells #[.int .i64 (n : Int), .int .i64 (m : Int), .int .i64 (s : Int), .int .i64 16, .int .i64 (sl' : Int), .int .i64 (bm' : Int), .int .i64 (bk' : Int), .int .i64 (E : Int), .slice (some ⟨g, 0, none⟩) E gc] 30) = w4 at *
  generalize w3.heap.size = b3 at *
  clear w3
  generalize rawW n m s E ws = W at *
  have HSC := Lib.hid (scan_any HV4.out)
  have HRS := Lib.hid (fun w' (hb : Below w4.heap.size w4 w') => rscan_any (w := w') (gc := gc) HPL.out (HD4.out.keep hb) HLN.out HCP.out)
  unfold dv at HRS
  clear HD4 HLN HCP HPL
  generalize rawW n m s E ws = W at *
  have hx4 := HX4.out
  have v0 := hx4.cell 0
  have v1 := hx4.cell 1
  have v2 := hx4.cell 2
  have v3 := hx4.cell 3
  have v4 := hx4.cell 4
  have v5 := hx4.cell 5
  have v6 := hx4.cell 6
  have v7 := hx4.cell 7
  have v8 := hx4.cell 8
  have vl := hx4.lt
  clear hx4
  refine HSC.out.mono ?_
  intro e w5 k5
  unfold ScTo at k5
  rcases k5 with ⟨hsc, rfl, hb⟩ | ⟨L, P, N, C, X, hsc, rfl, hq5, _, hb⟩
  · have HB5 := Lib.hid hb
    have HX5 := Lib.hid (HX4.out.keep hb)
    have hx5 := HX5.out
    have y0 := hx5.cell 0
    have y1 := hx5.cell 1
    have y2 := hx5.cell 2
    have y3 := hx5.cell 3
    have y4 := hx5.cell 4
    have y5 := hx5.cell 5
    have y6 := hx5.cell 6
    have y7 := hx5.cell 7
    have y8 := hx5.cell 8
    have yl := hx5.lt
    clear hx5 v0 v1 v2 v3 v4 v5 v6 v7 v8 vl hb
    go_wp2_with fail
    refine (HRS.out w5 HB5.out).mono ?_
    intro e w6 k6
    unfold RsTo at k6
    rw [hsc] at k6
    rcases k6 with ⟨_, rfl, hb⟩ | ⟨_, _, _, _, _, h1, _⟩
    case inr => cases h1
    have HB6 := Lib.hid (HB4.out.trans ((HB5.out.trans (hb.mono HB5.out.size)).mono HB4.out.size))
    have hal := HB6.out.alloc HB6.out.size (.cells #[.int .i64 0, .slice none 0 0, .slice none 0 0] 40)
    have HB7 := Lib.hid hal
    clear hb hal hsc
    go_wp2
    go_ret
    exact ⟨rfl, HB7.out⟩
  · have HB5 := Lib.hid hb
    have HX5 := Lib.hid (HX4.out.keep hb)
    have hx5 := HX5.out
    have y0 := hx5.cell 0
    have y1 := hx5.cell 1
    have y2 := hx5.cell 2
    have y3 := hx5.cell 3
    have y4 := hx5.cell 4
    have y5 := hx5.cell 5
    have y6 := hx5.cell 6
    have y7 := hx5.cell 7
    have y8 := hx5.cell 8
    have yl := hx5.lt
    have HQ5 := Lib.hid hq5
    have HV5 := Lib.hid (HV4.out.keep hb)
    clear hx5 v0 v1 v2 v3 v4 v5 v6 v7 v8 vl hb hq5
    go_wp2_with fail
    refine (HRS.out w5 HB5.out).mono ?_
    intro e w6 k6
    unfold RsTo at k6
    rw [hsc] at k6
    rcases k6 with ⟨h1, _⟩ | ⟨L', I, ic, H, hc, h1, rfl, hrc, hb⟩
    · cases h1
    injection h1 with h1
    subst h1
    have hal := (Below.refl w6.heap.size w6).alloc (Nat.le_refl _) (.cells #[.int .i64 (n : Int), .slice I L.length ic, .slice H L.length hc] 40)
    have hb7 := hb.trans (hal.mono hb.size)
    have HB7 := Lib.hid (HB5.out.trans (hb7.mono HB5.out.size))
    have HQ7 := Lib.hid (HQ5.out.keep hb7)
    have HV7 := Lib.hid (HV5.out.keep hb7)
    have HR7 := Lib.hid (hrc.keep hal)
    have HX7 := Lib.hid (hb_new w6 #[.int .i64 (n : Int), .slice I L.length ic, .slice H L.length hc] 40)
    obtain ⟨hok, hLm⟩ := scn_oks (fun _ _ h => gi_ok h) hsc
    have HOK := Lib.hid hok
    have HLM := Lib.hid hLm
    have HBF := Lib.hid (HB4.out.trans (HB7.out.mono HB4.out.size))
    clear hal hb hb7 hrc hsc y0 y1 y2 y3 y4 y5 y6 y7 y8 yl HX5 HQ5 HV5 HX4 HV4 HRS HSC hok hLm
    go_wp2_with fail
    generalize w6.alloc (.cells #[.int .i64 (n : Int), .slice I L.length ic, .slice H L.length hc] 40) = w7 at *
    generalize w6.heap.size = cb at *
    clear w6
    have hmL := HLM.out
    subst hmL
    have HSM := Lib.hid (csame_yes fw_may HQ7.out rfl HOK.out (by omega) (by omega) HR7.out (ic := ic) (hc := hc))
    refine HSM.out.mono ?_
    rintro e w8 ⟨rfl, hb⟩
    have HB8 := Lib.hid hb
    have HDV := Lib.hid (Vol.device_any (HV7.out.keep hb))
    have HST := Lib.hid (Vol.up_steps (HV7.out.keep hb).up)
    clear hb HSM
    go_wp2_with fail
    refine HDV.out.mono ?_
    rintro e w9 ⟨rfl, rfl⟩
    go_wp2_with fail
    refine HST.out.mono ?_
    rintro e w9 ⟨rfl, rfl⟩
    have x0 := (HX7.out.keep HB8.out).cell 0
    have xl := (HX7.out.keep HB8.out).lt
    go_wp2
    clear x0 xl
    obtain ⟨i0, hi0, hz0, hz1, hz2⟩ := info_parts int_info
    have HBQ := Lib.hid (HBF.out.trans (HB8.out.mono HBF.out.size))
    go_loopw [11, 66] (fun v q' wr => ∃ (t : Nat) (G : Option Addr) (gc : Nat) (R : List Nat), t ≤ n ∧ q' = .int .i64 (t : Int) ∧ v = .slice G R.length gc ∧ R = (fre (ins (sl L)) t).take q.toNat ∧ wr.ownsRow w8.heap.size 3 1 (.slice G R.length gc) R.length (i64s (R.map Int.ofNat)) ∧ Below w8.heap.size w8 wr) (fun _ q' _ => n - (intOf q').toNat)
    case atStart => exact ⟨0, none, 0, [], Nat.zero_le _, rfl, rfl, by simp [fre], World.ownsRow_nil .., Below.refl _ _⟩
    case round =>
      obtain ⟨t, G, gc, R, ht, rfl, rfl, hR, hrow, hb⟩ := hrel
      have HRX := Lib.hid hR
      have HROW := Lib.hid hrow
      have HB := Lib.hid hb
      have hfl := fre_len (ins (sl L)) t
      have hrl : R.length ≤ t := by rw [hR, List.length_take]; omega
      clear hR hrow hfl
      by_cases hlt : t < n
      · have hx := (HX7.out.keep HB8.out).keep hb
        have x0 := hx.cell 0
        have x1 := hx.cell 1
        have x2 := hx.cell 2
        have xl := hx.lt
        have hsl := rslot_any wr I H n ic hc L ((HR7.out.keep HB8.out).keep hb) (by omega) t
        obtain ⟨us, hus⟩ : ∃ us, us = ins (sl L) t := ⟨_, rfl⟩
        rw [show decide (t ∈ sl L) = us by rw [hus]; rfl] at hsl
        have HSL := Lib.hid hsl
        have HUS := Lib.hid hus
        have hti : (t : Int) < (n : Int) := by omega
        clear hx hsl hus hb
        cases us with
        | true =>
          have HF := Lib.hid (fre_no HUS.out.symm)
          go_wp2_with fail
          refine HSL.out.mono ?_
          rintro e w9 ⟨rfl, hb⟩
          have HB9 := Lib.hid (HB.out.trans (hb.mono HB.out.size))
          have HROW9 := Lib.hid (own_keep3 HROW.out hb)
          clear hb
          go_wp2
          exact ⟨⟨t + 1, G, gc, R, by omega, by go_num, rfl, by rw [HF.out]; exact HRX.out, HROW9.out, HB9.out⟩, by simp [intOf]; omega⟩
        | false =>
          by_cases hlx : (R.length : Int) < q
          · have HF := Lib.hid (tk_yes HRX.out HUS.out.symm (by omega))
            go_wp2_with fail
            refine HSL.out.mono ?_
            rintro e w9 ⟨rfl, hb⟩
            have HB9 := Lib.hid (HB.out.trans (hb.mono HB.out.size))
            have HROW9 := Lib.hid (own_keep3 HROW.out hb)
            have HO := Lib.hid (HROW9.out.alloc (.cells #[.int .i64 (t : Int)] 3))
            have hws := HB9.out.size
            clear hb
            go_wp2_with (at_builtin
                         refine wpList_append_own_at _ rfl (.tmp 79) (.tmp 81) 50 rfl w8.heap.size 3 i0 (.int .i64 0) 1 8 Tryz.underlying50 hi0 hz0 hz1 hz2 rfl (by decide) (.slice G R.length gc) R.length (i64s (R.map Int.ofNat)) rfl HO.out ⟨w9.heap.size, 0, none⟩ 1 1 [.int .i64 (t : Int)] rfl rfl (cell_one_new _ _ _) (by simp [Value.oneCell']) (by unfold maxLen; omega) (by omega) (by simp; omega) ?_
                         intro v6 w6 hown6 hgr6 _ _
                         obtain ⟨G6, c6, rfl⟩ := Pack.row_slice hown6
                         have hal := (Below.refl w9.heap.size w9).alloc (Nat.le_refl _) (.cells #[.int .i64 (t : Int)] 3)
                         have HB6 := Lib.hid ((HB9.out.trans (hal.mono HB9.out.size)).grown hgr6 (HB9.out.trans (hal.mono HB9.out.size)).size (fun _ hk => row_base_lt3 HROW9.out hk))
                         have HO6 := Lib.hid hown6
                         clear hown6 hgr6 hal)
            refine ⟨⟨t + 1, G6, c6, R ++ [t], by omega, by go_num, by simp, HF.out, ?_, HB6.out⟩, by simp [intOf]; omega⟩
            have h6 := HO6.out
            unfold i64s at h6 ⊢
            simp only [List.map_append, List.length_append]
            exact h6
          · have HF := Lib.hid (tk_full HRX.out HUS.out.symm (by omega))
            go_wp2_with fail
            refine HSL.out.mono ?_
            rintro e w9 ⟨rfl, hb⟩
            have HB9 := Lib.hid (HB.out.trans (hb.mono HB.out.size))
            have HROW9 := Lib.hid (own_keep3 HROW.out hb)
            clear hb
            go_wp2
            exact ⟨⟨t + 1, G, gc, R, by omega, by go_num, rfl, HF.out, HROW9.out, HB9.out⟩, by simp [intOf]; omega⟩
      · obtain rfl : t = n := by omega
        have HNR := Lib.hid (show Nts wr _ _ from Pack.own_nts HROW.out (fun x hx => by
          obtain ⟨y, hy, rfl⟩ := List.mem_map.1 hx
          rw [HRX.out] at hy
          have := fre_lt y (List.mem_of_mem_take hy)
          simp only [Int.ofNat_eq_natCast]
          omega) (by omega))
        have HQ := Lib.hid ((HQ7.out.keep HB8.out).keep hb)
        have HX := Lib.hid ((HX7.out.keep HB8.out).keep hb)
        have HBW := Lib.hid (HBQ.out.trans (hb.mono HBQ.out.size))
        have hns := nextSlots_any HQ.out (HT.out _ HBW.out) q hq
        rw [← HRX.out] at hns
        have HNS := Lib.hid hns
        clear hns hb
        go_wp2_with fail
        refine HNS.out.mono ?_
        rintro e w9 ⟨G9, c9, rfl, hn9, hb⟩
        have HB9 := Lib.hid hb
        have hsm := rsame_yes w9 G9 G c9 gc (R.map Int.ofNat) hn9 (HNR.out.keep hb)
        rw [List.length_map] at hsm
        have HSM2 := Lib.hid hsm
        clear hsm hn9 hb HNS HNR
        go_wp2_with fail
        refine HSM2.out.mono ?_
        rintro e w10 ⟨rfl, hb⟩
        have HB10 := Lib.hid (HB9.out.trans (hb.mono HB9.out.size))
        have HI1 := Lib.hid (fun w' (hb : Below wr.heap.size wr w') => inode_no (HQ.out.keep hb) (-1) (.inl (by omega)))
        have HI2 := Lib.hid (fun w' (hb : Below wr.heap.size wr w') => inode_no (HQ.out.keep hb) ((t : Int) + 99) (.inr (by omega)))
        have HNN := Lib.hid (fun w => Ino.none_any w)
        have HCN := Lib.hid (fun w' (hb : Below wr.heap.size wr w') => chain_no (HQ.out.keep hb) (-1) (.inl (by omega)))
        clear hb HSM2
        go_wp2_with fail
        refine (HI1.out _ HB10.out).mono ?_
        rintro e w11 ⟨rfl, hb⟩
        have HB11 := Lib.hid (HB10.out.trans (hb.mono HB10.out.size))
        clear hb
        go_wp2_with fail
        refine (HNN.out _).mono ?_
        rintro e w12 ⟨rfl, hb⟩
        have HB12 := Lib.hid (HB11.out.trans (hb.mono HB11.out.size))
        clear hb
        have x0 := (HX.out.keep HB12.out).cell 0
        have xl := (HX.out.keep HB12.out).lt
        have hwr : IntKind.i64.wrap ((t : Int) + 99) = (t : Int) + 99 := IntWalk.i64_in _ (by omega)
        go_wp2_with fail
        refine (HI2.out _ HB12.out).mono ?_
        rintro e w13 ⟨rfl, hb⟩
        have HB13 := Lib.hid (HB12.out.trans (hb.mono HB12.out.size))
        clear hb
        go_wp2_with fail
        refine (HNN.out _).mono ?_
        rintro e w14 ⟨rfl, hb⟩
        have HB14 := Lib.hid (HB13.out.trans (hb.mono HB13.out.size))
        clear hb
        go_wp2_with fail
        refine (HCN.out _ HB14.out).mono ?_
        rintro e w15 ⟨rfl, hb⟩
        have HB15 := Lib.hid (HBW.out.trans ((HB14.out.trans (hb.mono HB14.out.size)).mono HBW.out.size))
        clear hb
        have hfd := run_slots (.slice none 0 0) (.slice none 0 0)
        go_wp2
        go_ret
        exact ⟨rfl, HB15.out⟩
end
end Clm
end Go.Proofs.YtilolepbfmcbgaaGreatDoor
