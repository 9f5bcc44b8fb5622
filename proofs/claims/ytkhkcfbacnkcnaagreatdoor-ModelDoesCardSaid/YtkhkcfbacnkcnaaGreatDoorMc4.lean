/- Texts laid together: TrkCreate, TrkZeros, TrkGrow, TrkWrite, TreIns, TreAll, TreKids, TreUnlink, TreRead. -/
import Derived.Test.YtkhkcfbacnkcnaaGreatDoorMc3
import Derived.Maps.AppendAt
import Derived.Lib.AppendZerosOnto
import Derived.Laws.CopyRow
import Derived.Deep.RegionHeld3
import Derived.Deep.RegionLaw
import Derived.Deep.DeepCutAuto
import Derived.Test.YtkhkcfbacnkcnaaGreatDoorMc2
import Derived.Test.YtkhkcfbacnkcnaaGreatDoorMc1
/- The program's put at a path; a new file, a new directory. -/
namespace Go.Proofs.YtkhkcfbacnkcnaaGreatDoor
open Go.RowKit Go.MapKept
namespace Trk
open Tre (Nm Th fi isDirAt dirT goT goF setT dropT fileT addT)
open Pat (Txs)

/-- a tree as a deed leaves it -/
def TrkR (w : World) (N : Nat) (t : List Th) (L : Nm → Nd) (t' : List Th) (w' : World) : Prop :=
  Chg (Fp t L) w w' ∧ ∃ L', Mem w' (N + 1) t' L' ∧ (L' []).b = (L []).b ∧ ∀ i, Fp t' L' i → Fp t L i ∨ w.heap.size ≤ i
theorem TrkR.same {w w' : World} {N : Nat} {t : List Th} {L : Nm → Nd} (h : Mem w N t L) (hb : Below w.heap.size w w') : TrkR w N t L t w' :=
  ⟨Chg.of_below hb, L, (h.keep hb).mono (Nat.le_succ N), rfl, fun _ hi => .inl hi⟩
theorem TrkR.after {w w1 w' : World} {N : Nat} {t t' : List Th} {L : Nm → Nd} (hb : Below w.heap.size w w1) (h : TrkR w1 N t L t' w') : TrkR w N t L t' w' := by
  obtain ⟨h1, L', h2, h3, h4⟩ := h
  exact ⟨Chg.after hb h1, L', h2, h3, fun i hi => (h4 i hi).imp id (fun e => Nat.le_trans hb.size e)⟩
/-- a deed that is left behind a new block -/
def PutsR (w : World) (N : Nat) (t : List Th) (L : Nm → Nd) (nb : Nat) (t' : List Th) (w' : World) : Prop :=
  Chg (Fp t L) w w' ∧ ∃ L', Mem w' (N + 1) t' L' ∧ (L' []).b = (L []).b ∧ ∀ i, Fp t' L' i → Fp t L i ∨ i = nb ∨ w.heap.size ≤ i
theorem PutsR.same {w w' : World} {N nb : Nat} {t : List Th} {L : Nm → Nd} (h : Mem w N t L) (hb : Below w.heap.size w w') : PutsR w N t L nb t w' :=
  ⟨Chg.of_below hb, L, (h.keep hb).mono (Nat.le_succ N), rfl, fun _ hi => .inl hi⟩
theorem fp_add {w : World} {t : List Th} {L : Nm → Nd} {p : Nm} {nm : ByteArray} {nb g : Nat} {d : Bool} {s : ByteArray} (hp : T t p = some (true, s)) (hn : T t (p ++ [nm]) = none) (hg : Fp t L g ∨ g = w.heap.size) :
    ∀ i, Fp (t ++ [(p ++ [nm], d, ByteArray.empty)]) (La L p nm nb g) i → Fp t L i ∨ i = nb ∨ w.heap.size ≤ i := by
  rintro i ⟨q, v, hv, hi⟩
  obtain ⟨hne, hfi⟩ := T_no hn
  rw [T_app (x := (p ++ [nm], d, ByteArray.empty)) hne hfi] at hv
  by_cases e : q = p ++ [nm]
  · subst e
    rw [La_new] at hi
    exact .inr (.inl (by simpa [own] using hi))
  · rw [if_neg e] at hv
    by_cases e' : q = p
    · subst e'
      rw [La_up, own_mem] at hi
      simp only [Option.some.injEq] at hi
      rcases hi with hi | hi | hi
      · exact .inl ⟨q, _, hp, own_mem.2 (.inl hi)⟩
      · subst hi
        exact hg.imp id (fun e => .inr (by omega))
      · exact .inl ⟨q, _, hp, own_mem.2 (.inr (.inr hi))⟩
    · rw [La_other e e'] at hi
      exact .inl ⟨q, v, hv, hi⟩

set_option maxRecDepth 100000 in
set_option maxHeartbeats 1000000 in
theorem put_any (w : World) (N b0 nb : Nat) (t : List Th) (L : Nm → Nd) (p : ByteArray) (d : Bool) (ty : TypeId) (hM : Mem w N t L) (hb : (L []).b = b0) (hW : Wf t) (hp : p.size < 4294967281) (hN : N ≤ 1000000)
    (hnb : w.heap[nb]? = some (.cells #[.bool (!d), .slice none 0 0, .map none] ty (0, 0))) (hF : ¬ Fp t L nb) :
    Calls Tryz.prog 64 #[.pointer (some ⟨b0, 0, none⟩), .string p, .pointer (some ⟨nb, 0, none⟩)] w fun e w' => e = .returned (.int .i64 (addT t p d).2) ∧ PutsR w N t L nb (addT t p d).1 w' := by
  have HM := Lib.hid hM
  have hlt := (Array.getElem?_eq_some_iff.1 hnb).1
  have HNB := Lib.hid hnb
  have HL := Lib.hid hlt
  have HF := Lib.hid hF
  clear hM hnb hF hlt
  go_enter Tryz.func64, Tryz.ntmps64
  go_wp2_with fail
  refine (Pat.split_any w p hp).mono ?_
  rintro e w1 ⟨hb1, h1⟩
  have HB1 := Lib.hid hb1
  have HM1 := Lib.hid (HM.out.keep hb1)
  clear hb1
  rcases h1 with ⟨l, A, c, hs, rfl, hc, ht⟩ | ⟨hs, rfl⟩
  · have HS := Lib.hid hs
    have HC := Lib.hid hc
    have HI := Lib.hid (spl_is hs)
    have HT := Lib.hid ht
    clear hs ht hc
    rcases List.eq_nil_or_concat l with rfl | ⟨m, s, rfl⟩
    · have HZ := Lib.hid (Tre.addT_root (t := t) (d := d) HS.out)
      simp only [List.length_nil]
      go_wp2_with fail
      refine (Pat.parent_no w1 A c).mono ?_
      rintro e w2 ⟨rfl, rfl⟩
      go_wp2
      refine bodyPost_ret (v := .int .i64 5) ?_ rfl ⟨by rw [HZ.out], by rw [HZ.out]; exact PutsR.same HM.out HB1.out⟩
      simp [results, Tryz.results64, go_sem]
    · rw [List.concat_eq_append] at *
      have hk : (m ++ [s]).take ((m ++ [s]).length - 1) = m := by simp
      have hne : m ++ [s] ≠ [] := by simp
      have HIm := Lib.hid (show Pat.IsNames m from ⟨by have := HI.out.1; simp at this; omega, fun z hz => HI.out.2 z (by simp [hz])⟩)
      have hss := right_len (HI.out.2 s (by simp))
      have hss2 : s.size ≤ 1000000 := by
        have := (HI.out.2 s (by simp)).1.2
        rw [Crc.tx_len] at this
        omega
      have hml : m.length ≤ 1000000 := by have := HIm.out.1; omega
      have HG := Lib.hid (fun h => hk ▸ Tre.addT_go (t := t) (d := d) HS.out hne (hk.symm ▸ h))
      obtain ⟨n, hn⟩ : ∃ n, n = (m ++ [s]).length := ⟨_, rfl⟩
      rw [← hn]
      have hn' : n = m.length + 1 := by rw [hn]; simp
      obtain ⟨k, hk'⟩ : ∃ k, k = m.length := ⟨_, rfl⟩
      rw [← hk'] at hn' hml
      have HPAR := Lib.hid (Pat.parent_yes w1 A c n k m s HT.out hk'.symm hn' hml)
      have HKL := Lib.hid hk'
      clear hn hn' hk'
      go_wp2_with fail
      refine HPAR.out.mono ?_
      rintro e w2 ⟨g, rfl, _, ho, hb2⟩
      have HB2 := Lib.hid (HB1.out.trans (hb2.mono HB1.out.size))
      have HM2 := Lib.hid (HM.out.keep HB2.out)
      have HO := Lib.hid (Pat.Own.txs ho (fun z hz => by have := (HIm.out.2 z hz).1.2; rw [Crc.tx_len] at this; omega) (by have := HKL.out; omega))
      have HFOL := Lib.hid (follow_any w2 N b0 k k t L (some ⟨g, 0, none⟩) m HM2.out hb HO.out HIm.out HKL.out.symm)
      clear ho hb2 HT HC HPAR
      go_wp2_with fail
      refine HFOL.out.mono ?_
      rintro e w3 ⟨rfl, rfl⟩
      by_cases hg : goT t m = 0
      · obtain ⟨⟨d', s'⟩, hv⟩ := goT_some hg
        have HGO := Lib.hid (hk.symm ▸ hg : goT t ((m ++ [s]).take ((m ++ [s]).length - 1)) = 0)
        rw [gv_yes hg, hg]
        have HD := Lib.hid (HM2.out.nod _ _ _ hv)
        have h0 := HD.out.c0
        have h2 := HD.out.c2
        have HV := Lib.hid hv
        have HDI := Lib.hid (hk.symm ▸ dirT_T hv : dirT t ((m ++ [s]).take ((m ++ [s]).length - 1)) = d')
        have hlk := HD.out.look s hss
        unfold pv
        clear hv hg HG
        cases d' with
        | false =>
          simp only [Bool.not_false] at h0
          have HZ := Lib.hid (Tre.addT_file (t := t) (d := d) HS.out hne HGO.out HDI.out)
          clear hlk
          generalize hx : L m = x at *
          go_wp2
          refine bodyPost_ret (v := .int .i64 6) ?_ rfl ⟨by rw [HZ.out], by rw [HZ.out]; exact PutsR.same HM.out HB2.out⟩
          simp [results, Tryz.results64, go_sem]
        | true =>
          simp only [Bool.not_true] at h0
          unfold kb at hlk
          cases hv' : T t (m ++ [s]) with
          | some u =>
            rw [hv'] at hlk
            simp only [Option.map_some, pv] at hlk
            obtain ⟨i, hi⟩ := fi_of_T hne hv'
            have HZ := Lib.hid (Tre.addT_there (t := t) (d := d) HS.out hne HGO.out HDI.out hi)
            clear hv' hi
            generalize hx : L m = x at *
            generalize hy : L (m ++ [s]) = y at *
            go_wp2
            refine bodyPost_ret (v := .int .i64 5) ?_ rfl ⟨by rw [HZ.out], by rw [HZ.out]; exact PutsR.same HM.out HB2.out⟩
            simp [results, Tryz.results64, go_sem]
          | none =>
            rw [hv'] at hlk
            simp only [Option.map_none, pv] at hlk
            have HZ := Lib.hid (Tre.addT_yes (t := t) (d := d) HS.out hne HGO.out HDI.out (T_no hv').2)
            have HVN := Lib.hid hv'
            have HCL := Lib.hid (clone_any w3 s hss2)
            clear hv'
            generalize hx : L m = x at *
            go_wp2_with fail
            refine HCL.out.mono ?_
            rintro e w5 ⟨rfl, hb3⟩
            have HB3 := Lib.hid (HB2.out.trans (hb3.mono HB2.out.size))
            have HM3 := Lib.hid (HM.out.keep HB3.out)
            have HPT := Lib.hid (tput_any w5 N x (kb t L m) true s' s nb (HD.out.block fun i hi => hb3.block i (HD.out.lt i hi)) (hx ▸ HM.out.one _ _ HV.out) hss hN)
            clear hb3
            go_wp2_with fail
            refine HPT.out.mono ?_
            rintro e w4 ⟨rfl, hr⟩
            have HR := Lib.hid (show PutsR w N t L nb (t ++ [(m ++ [s], d, ByteArray.empty)]) w4 from by
              rw [← hx] at hr
              obtain ⟨g', hg', hm4, hc4⟩ := HM3.out.add hW HV.out HVN.out (d := d) (ty := ty) ((HB3.out.block nb HL.out).trans HNB.out) HF.out hr
              refine ⟨Chg.after HB3.out hc4, _, hm4, La_b (by simp), fun i hi => ?_⟩
              rcases fp_add HV.out HVN.out hg' i hi with h | h | h
              · exact .inl h
              · exact .inr (.inl h)
              · exact .inr (.inr (Nat.le_trans HB3.out.size h)))
            clear hr
            go_wp2
            refine bodyPost_ret (v := .int .i64 0) ?_ rfl ⟨by rw [HZ.out], by rw [HZ.out]; exact HR.out⟩
            simp [results, Tryz.results64, go_sem]
      · have HZ := Lib.hid (HG.out hg)
        rw [gv_no hg]
        unfold pv
        clear HG
        generalize goT t m = g at *
        go_wp2
        refine bodyPost_ret (v := .int .i64 g) ?_ rfl ⟨by rw [HZ.out], by rw [HZ.out]; exact PutsR.same HM.out HB2.out⟩
        simp [results, Tryz.results64, go_sem]
  · have HZ := Lib.hid (Tre.addT_none (t := t) (d := d) hs)
    clear hs
    go_wp2
    refine bodyPost_ret (v := .int .i64 3) ?_ rfl ⟨by rw [HZ.out], by rw [HZ.out]; exact PutsR.same HM.out HB1.out⟩
    simp [results, Tryz.results64, go_sem]

/-- with a new thing ahead of it -/
theorem PutsR.trk {w w1 w' : World} {N nb : Nat} {t t' : List Th} {L : Nm → Nd} (hb : Below w.heap.size w w1) (hn : w.heap.size ≤ nb) (h : PutsR w1 N t L nb t' w') : TrkR w N t L t' w' := by
  obtain ⟨h1, L', h2, h3, h4⟩ := h
  refine ⟨Chg.after hb h1, L', h2, h3, fun i hi => ?_⟩
  rcases h4 i hi with h | h | h
  · exact .inl h
  · exact .inr (h ▸ hn)
  · exact .inr (Nat.le_trans hb.size h)
section
variable (w : World) (N b0 : Nat) (t : List Th) (L : Nm → Nd) (p : ByteArray) (hM : Mem w N t L) (hb : (L []).b = b0) (hW : Wf t) (hp : p.size < 4294967281) (hN : N ≤ 1000000)
include hM hb hW hp hN
set_option maxRecDepth 100000 in
set_option maxHeartbeats 1000000 in
theorem create_any : Calls Tryz.prog 31 #[.pointer (some ⟨b0, 0, none⟩), .string p] w fun e w' => e = .returned (.int .i64 (addT t p false).2) ∧ TrkR w N t L (addT t p false).1 w' := by
  have hb1 := (Below.refl w.heap.size w).alloc (Nat.le_refl _) (.cells #[.bool true, .slice none 0 0, .map none] 76)
  have HM := Lib.hid hM
  have HB1 := Lib.hid hb1
  have HP := Lib.hid (put_any _ N b0 w.heap.size t L p false 76 (HM.out.keep hb1) hb hW hp hN (heap_alloc_new w _) (fun h => by have := HM.out.lt h; omega))
  clear hM hb1
  go_enter Tryz.func31, Tryz.ntmps31
  go_wp2_with fail
  refine HP.out.mono ?_
  rintro e w1 ⟨rfl, h1⟩
  have HR := Lib.hid (PutsR.trk HB1.out (Nat.le_refl _) h1)
  clear h1
  generalize hg : (addT t p false).2 = g
  have HG := Lib.hid hg
  clear hg
  go_wp2
  refine bodyPost_ret (v := .int .i64 g) ?_ rfl ⟨by rw [HG.out], HR.out⟩
  simp [results, Tryz.results31, go_sem]
set_option maxRecDepth 100000 in
set_option maxHeartbeats 1000000 in
theorem mkdir_any : Calls Tryz.prog 30 #[.pointer (some ⟨b0, 0, none⟩), .string p] w fun e w' => e = .returned (.int .i64 (addT t p true).2) ∧ TrkR w N t L (addT t p true).1 w' := by
  have hb1 := (Below.refl w.heap.size w).alloc (Nat.le_refl _) (.cells #[.bool false, .slice none 0 0, .map none] 76)
  have HM := Lib.hid hM
  have HB1 := Lib.hid hb1
  have HP := Lib.hid (put_any _ N b0 w.heap.size t L p true 76 (HM.out.keep hb1) hb hW hp hN (heap_alloc_new w _) (fun h => by have := HM.out.lt h; omega))
  clear hM hb1
  go_enter Tryz.func30, Tryz.ntmps30
  go_wp2_with fail
  refine HP.out.mono ?_
  rintro e w1 ⟨rfl, h1⟩
  have HR := Lib.hid (PutsR.trk HB1.out (Nat.le_refl _) h1)
  clear h1
  generalize hg : (addT t p true).2 = g
  have HG := Lib.hid hg
  clear hg
  go_wp2
  refine bodyPost_ret (v := .int .i64 g) ?_ rfl ⟨by rw [HG.out], HR.out⟩
  simp [results, Tryz.results30, go_sem]
end
end Trk
end Go.Proofs.YtkhkcfbacnkcnaaGreatDoor
/- A row of bytes of the call's own, made longer by noughts; made shorter. Of no program. -/
namespace Go.Proofs.YtkhkcfbacnkcnaaGreatDoor
open Go.RowKit Go.MapKept
namespace Trk

theorem zero_list (v : Value) (k : Nat) : (Builtin.zeroCells #[v] k).toList = List.replicate k v := by
  apply List.ext_getElem
  · simp [Builtin.zeroCells]
  · intro i h1 h2
    simp [Builtin.zeroCells, Nat.mod_one]
theorem zero_arr (v : Value) (k : Nat) : Builtin.zeroCells #[v] k = (List.replicate k v).toArray := by
  rw [← zero_list]
section
variable {P : Program}
theorem run_append_zeros (w : World) (base : Nat) (t tn ty e : TypeId) (i : TypeInfo) (z : Value) (kq kn : IntKind) (ht : P.underlying t = some (.slice e)) (htn : P.underlying tn = some (.int kn)) (hi : P.info? e = some i) (hz : i.zero = some z)
    (hsize : i.size = 1) (hby : i.bytes = 1) (hzs : z.cells = #[z]) (hz1 : z.oneCell' = true) (v : Value) (n : Nat) (xs : List Value) (hown : w.ownsRow base e 1 v n xs) (k : Nat) (h0 : 0 < k) (hk : n + k ≤ 1000000000) (hbase : base ≤ w.heap.size) :
    ∃ v' w', (Builtin.append_ #[t, tn] ty #[v, .int kq (k : Int)]).run P w = .ok v' w' ∧ w'.ownsRow base e 1 v' (n + k) (xs ++ List.replicate k z) ∧ w.grownBy w' v.ownBlock ∧ (v'.ownBlock = v.ownBlock ∨ v'.ownBlock = some w.heap.size) := by
  have hlen : (xs ++ List.replicate k z).length = (n + k) * 1 := by rw [List.length_append, hown.1, List.length_replicate, Nat.mul_one, Nat.mul_one]
  have grown : ∀ (old : Nat) (row : Option Nat),
      (w.drew.alloc (.cells (xs.toArray ++ Builtin.zeroCells z.cells k ++ Builtin.zeroCells z.cells (grownCap w (n + k) old e - (n + k))) e)).ownsRow base e 1
        (.slice (some ⟨w.heap.size, 0, none⟩) (n + k) (grownCap w (n + k) old e)) (n + k) (xs ++ List.replicate k z) ∧
      w.grownBy (w.drew.alloc (.cells (xs.toArray ++ Builtin.zeroCells z.cells k ++ Builtin.zeroCells z.cells (grownCap w (n + k) old e - (n + k))) e)) row := by
    intro old row
    have hge := grownCap_ge w (n + k) old e
    have hcm : grownCap w (n + k) old e ≤ maxLen := grownCap_le_maxLen w (n + k) old e (by unfold maxLen; omega)
    have hxl : xs.length = n := by have := hown.1; omega
    refine ⟨⟨hlen, .inr ⟨w.heap.size, _, _, rfl, hbase, heap_alloc_new w.drew _, hge, hcm, ?_, ?_⟩⟩, ⟨rfl, rfl, rfl, by simp, fun k' hk' _ => Below.heap_alloc w.drew _ k' hk'⟩⟩
    · simp only [Array.size_append, List.size_toArray, size_zeroCells, hzs, hxl]
      simp
      omega
    · simp only [Array.toList_append, List.append_assoc]
      rw [← List.append_assoc, ← hlen, hzs, zero_list]
      exact List.take_left
  rcases hown.2 with ⟨rfl, rfl⟩ | ⟨g, cap, cur, rfl, hbg, hg, hnc, hcm, hcs, htake⟩
  · have hx : xs = [] := List.eq_nil_of_length_eq_zero (by simpa using hown.1)
    subst hx
    have hr := Lib.run_append_nil_zeros (P := P) w t tn ty e i z kq kn ht htn hi hz k h0 (by omega) (by omega) (by rw [hby]; omega)
    have hgr := grown 0 (Value.ownBlock (.slice none 0 0))
    simp only [Nat.zero_add, List.nil_append] at hgr ⊢
    exact ⟨_, _, hr, by simpa using hgr.1, by simpa using hgr.2, .inr rfl⟩
  · have hxl : xs.length = n := by have := hown.1; omega
    by_cases hroom : n + k ≤ cap
    · have hst := run_storeCells_at P g n e (List.replicate k z) 0 cur w hg (by rw [List.length_replicate, hcs]; omega) (fun x hx => by obtain ⟨_, rfl⟩ := List.mem_replicate.1 hx; exact hz1)
      have hw : IntKind.i64.wrap (k : Int) = k := by rw [IntKind.wrap_i64]; omega
      have hadd : (⟨g, 0, none⟩ : Addr).add n = ⟨g, n, none⟩ := by rw [Go.WideShapes.add_plain, Nat.zero_add]
      refine ⟨.slice (some ⟨g, 0, none⟩) (n + k) cap, w.setRow g (cur.toList.take (n + 0) ++ List.replicate k z ++ cur.toList.drop (n + 0 + (List.replicate k z).length)).toArray, ?_, ⟨hlen, .inr ⟨g, cap, _, rfl, hbg, setRow_heap w g cur _ e _ hg, hroom, hcm, ?_, ?_⟩⟩, ⟨rfl, rfl, rfl, by simp, fun k _ hk => setRow_other w g k _ (fun e => hk (by simp [Value.ownBlock, e]))⟩, .inl rfl⟩
      · have h1 : ¬ (281474976710656 < (k : Int)) := by omega
        have h2 : ¬ k = 0 := by omega
        have h3 : ¬ ((k : Int) < 0) := by omega
        have hst' : (storeCells ⟨g, n, none⟩ (List.replicate k z)).run P w = _ := hst
        simp [Builtin.append_, run_underlying ht, run_underlying htn, sizeOf, typeInfo, zeroValue, hi, hz, hsize, hby, asInt, asIntOf, hw, h1, h2, h3, hroom, hzs, zero_list, hadd, hst']
      · simp only [List.size_toArray, List.length_append, List.length_take, List.length_drop, Array.length_toList, List.length_replicate]
        omega
      · have ht' : cur.toList.take (n + 0) = xs := by rw [Nat.add_zero, ← htake, Nat.mul_one]
        rw [ht', ← hlen]
        exact List.take_left
    · have holds : ∀ j u, xs[j]? = some u → w.drew.cell? ((⟨g, 0, none⟩ : Addr).add j) = some u := fun j u hu => hown.cells (g := g) rfl j u (by simpa using hu)
      have hl := run_loadCells_list (P := P) w.drew ⟨g, 0, none⟩ xs holds
      have hr := Lib.run_append_grow_zeros (P := P) w t tn ty e i z kq kn ht htn hi hz (some ⟨g, 0, none⟩) n cap xs (by
        unfold Builtin.firstCells
        rw [hsize, Nat.mul_one, ← hxl]
        exact hl) k h0 (by omega) (by omega) (by omega) (by rw [hby]; omega) (by
          rw [hby]
          have := nextslicecap_le (show cap < n + k by omega)
          omega)
      have hgr := grown cap (Value.ownBlock (.slice (some ⟨g, 0, none⟩) n cap))
      exact ⟨_, _, hr, hgr.1, hgr.2, .inr rfl⟩
end
theorem step_append_zeros {P : Program} {w w' : World} {ops : Array Oper} {o : Oper} {a : Act} {K : Act → World → Prop} {Q : Exit → Act → World → Prop} {E : Prop} (hgd : o.guard = none) (s x : Operand) (t tn : TypeId)
    (ho : o.op = .call { callee := .builtin .append, args := #[s, x], argTypes := #[t, tn] }) (v u v' : Value) (hs : a.eval s = v) (hx : a.eval x = u) (hr : (Builtin.append_ #[t, tn] o.type #[v, u]).run P w = .ok v' w')
    (h : K (a.put o.dst v') w') : if Region.wanted o (yielded ops a.tmps) = true then Oper.wp P o a w K Q else E := by
  have hw : Region.wanted o (yielded ops a.tmps) = true := by simp [Region.wanted, hgd]
  rw [if_pos hw]
  unfold Oper.wp execOp
  simp only [ho, resolve, invoke, builtin, Sem.run_bind, Sem.run_pure, Result.andThen_ok, List.map_toArray, List.map_cons, List.map_nil, hs, hx, hr]
  exact h

/-- the first of a row -/
theorem own_shrink {w : World} {B n m c : Nat} {t : TypeId} {A : Option Addr} {xs : List Value} (h : w.ownsRow B t 1 (.slice A n c) n xs) (hm : m ≤ n) : w.ownsRow B t 1 (.slice A m c) m (xs.take m) := by
  rcases h with ⟨h1, h2⟩
  refine ⟨by rw [List.length_take]; omega, ?_⟩
  rcases h2 with ⟨e, h0⟩ | ⟨g, cap, cur, e, hB, hh, hnc, hcm, hcs, ht⟩
  · injection e with e1 e2 e3
    subst e1 e3
    exact .inl ⟨by rw [show m = 0 by omega], by omega⟩
  · injection e with e1 e2 e3
    subst e1 e3
    refine .inr ⟨g, c, cur, rfl, hB, hh, by omega, hcm, hcs, ?_⟩
    rw [← ht, List.take_take]
    congr 1
    omega
end Trk
end Go.Proofs.YtkhkcfbacnkcnaaGreatDoor
/- A file's bytes: other ones in the tree; made longer. -/
namespace Go.Proofs.YtkhkcfbacnkcnaaGreatDoor
open Go.RowKit Go.MapKept
namespace Trk
open Tre (Nm Th fi isDirAt dirT goT goF setT dropT fileT addT zt)
open Pat (Txs)

/-- a thing whose bytes are other ones -/
def DatR (w : World) (N : Nat) (x : Nd) (f : ByteArray → Option Nat) (d : Bool) (s' : ByteArray) (w' : World) : Prop :=
  ∃ A' c', Nod w' N ⟨x.b, A', c', x.m⟩ f d s' ∧ (∀ a, A' = some a → x.A.map (·.block) = some a.block ∨ w.heap.size ≤ a.block) ∧ Chg (· ∈ own x) w w'
theorem dat_nodup {w : World} {x : Nd} (h1 : (own x).Nodup) (hlt : ∀ i ∈ own x, i < w.heap.size) {A' : Option Addr} {c' : Nat} (hA : ∀ a, A' = some a → x.A.map (·.block) = some a.block ∨ w.heap.size ≤ a.block) : (own ⟨x.b, A', c', x.m⟩).Nodup := by
  cases hA' : A' with
  | none =>
    unfold own at h1 ⊢
    simp only [Option.map_none, Option.toList_none, List.append_nil]
    refine List.Nodup.sublist ?_ h1
    exact List.Sublist.cons_cons _ (List.sublist_append_left _ _)
  | some a =>
    rcases hA a hA' with h | h
    · have : own (⟨x.b, some a, c', x.m⟩ : Nd) = own x := by
        unfold own
        rw [h]
        rfl
      rw [this]
      exact h1
    · have hb := hlt x.b (own_mem.2 (.inl rfl))
      unfold own
      cases hm : x.m with
      | none => simp; omega
      | some g =>
        have hg := hlt g (own_mem.2 (.inr (.inl hm)))
        have hbg : x.b ≠ g := fun e => by
          unfold own at h1
          rw [hm] at h1
          simp [e] at h1
        simp
        exact ⟨⟨hbg, by omega⟩, by omega⟩
/-- where the things lie, one's bytes elsewhere -/
def Ld (L : Nm → Nd) (p : Nm) (A' : Option Addr) (c' : Nat) (q : Nm) : Nd := if q = p then ⟨(L p).b, A', c', (L p).m⟩ else L q
section
variable {L : Nm → Nd} {p : Nm} {A' : Option Addr} {c' : Nat}
theorem Ld_self : Ld L p A' c' p = ⟨(L p).b, A', c', (L p).m⟩ := if_pos rfl
theorem Ld_other {q : Nm} (h : q ≠ p) : Ld L p A' c' q = L q := if_neg h
theorem Ld_b {q : Nm} : (Ld L p A' c' q).b = (L q).b := by
  unfold Ld
  split
  · rename_i e
    rw [e]
  · rfl
end
theorem Mem.dat {w w' : World} {N : Nat} {t t' : List Th} {L : Nm → Nd} (h : Mem w N t L) {p : Nm} {d : Bool} {s s' : ByteArray} (hp : T t p = some (d, s)) (hT : ∀ n, T t' n = if n = p then some (d, s') else T t n)
    (hr : DatR w N (L p) (kb t L p) d s' w') : ∃ A' c', Mem w' N t' (Ld L p A' c') ∧ Chg (Fp t L) w w' ∧ ∀ i, Fp t' (Ld L p A' c') i → Fp t L i ∨ w.heap.size ≤ i := by
  obtain ⟨A', c', hN, hA, hc⟩ := hr
  have hFp : ∀ i ∈ own (L p), Fp t L i := fun i hi => ⟨p, _, hp, hi⟩
  have hown : ∀ i, i ∈ own (Ld L p A' c' p) → i ∈ own (L p) ∨ w.heap.size ≤ i := fun i hi => by
    rw [Ld_self, own_mem] at hi
    simp only at hi
    rcases hi with hi | hi | hi
    · exact .inl (own_mem.2 (.inl hi))
    · exact .inl (own_mem.2 (.inr (.inl hi)))
    · cases hA' : A' with
      | none => rw [hA'] at hi; simp at hi
      | some a =>
        rw [hA'] at hi
        simp at hi
        subst hi
        rcases hA a hA' with h | h
        · exact .inl (own_mem.2 (.inr (.inr h)))
        · exact .inr h
  have hkb : ∀ q x, kb t' (Ld L p A' c') q x = kb t L q x := fun q x => by
    unfold kb
    rw [Ld_b, hT]
    by_cases e : q ++ [x] = p
    · rw [if_pos e, e, hp]
      rfl
    · rw [if_neg e]
  refine ⟨A', c', ?_, ⟨hc.os, hc.tape, hc.output, hc.size, fun k hk hn => hc.block k hk (fun e => hn (hFp k e))⟩, ?_⟩
  · refine h.step (fun q => q = p) (Nat.le_refl N) (fun q hq => ?_) (fun q hq => ?_) (fun q v hv hq i hi => ?_) (fun q x v hv hq => hkb q x) (fun q d' s1 hq hv => ?_) (fun q v hq hv => ?_) (fun q r v u hq hv hu hne' i hi => ?_)
    · rw [hT, if_neg hq]
    · exact Ld_other hq
    · exact hc.block i (h.lt ⟨q, v, hv, hi⟩) (fun e => h.apart q p v _ hv hp hq i hi e)
    · obtain rfl : q = p := hq
      rw [hT, if_pos rfl] at hv
      injection hv with hv
      injection hv with h1 h2
      subst h1 h2
      rw [Ld_self]
      exact ⟨hN.box, hN.row, hN.map.congr fun x => (hkb q x).symm⟩
    · obtain rfl : q = p := hq
      rw [Ld_self]
      exact dat_nodup (h.one _ _ hp) (fun i hi => h.lt (hFp i hi)) hA
    · obtain rfl : q = p := hq
      rw [hT, if_neg hne'] at hu
      rw [Ld_other hne']
      rcases hown i hi with h1 | h1
      · exact h.apart q r _ u hp hu (fun e => hne' e.symm) i h1
      · intro hi'
        have := h.lt ⟨r, u, hu, hi'⟩
        omega
  · rintro i ⟨q, v, hv, hi⟩
    by_cases e : q = p
    · subst e
      exact (hown i hi).imp (hFp i) id
    · rw [hT, if_neg e] at hv
      rw [Ld_other e] at hi
      exact .inl ⟨q, v, hv, hi⟩

/-- bytes, made longer by noughts -/
def pad (s : ByteArray) (n : Nat) : ByteArray := s ++ zt (n - s.size)
theorem zt_zero : zt 0 = ByteArray.empty := rfl
theorem pad_none {s : ByteArray} {n : Nat} (h : n ≤ s.size) : pad s n = s := by
  unfold pad
  rw [show n - s.size = 0 by omega, zt_zero]
  exact ByteArray.append_empty
theorem pad_size {s : ByteArray} {n : Nat} (h : s.size ≤ n) : (pad s n).size = n := by
  unfold pad
  rw [ByteArray.size_append, Tre.zt_size]
  omega
theorem tx_app (s z : ByteArray) : Crc.tx (s ++ z) = Crc.tx s ++ Crc.tx z := by
  unfold Crc.tx
  rw [ByteArray.data_append, Array.toList_append, List.map_append]
theorem tx_zt (n : Nat) : Crc.tx (zt n) = List.replicate n 0 := Crc.tx_str (fun b hb => by obtain ⟨_, rfl⟩ := List.mem_replicate.1 hb; decide)
theorem tx_pad (s : ByteArray) (n : Nat) : Crc.tx (pad s n) = Crc.tx s ++ List.replicate (n - s.size) 0 := by
  unfold pad
  rw [tx_app, tx_zt]

set_option maxRecDepth 100000 in
set_option maxHeartbeats 300000 in
theorem grow_any (w : World) (N : Nat) (x : Nd) (f : ByteArray → Option Nat) (d : Bool) (s : ByteArray) (n : Nat) (h : Nod w N x f d s) (h1 : (own x).Nodup) (hs : s.size ≤ 268435456) (hn : n ≤ 268435456) :
    Calls Tryz.prog 92 #[.pointer (some ⟨x.b, 0, none⟩), .int .i64 (n : Int)] w fun e w' => e = .returned (.tuple #[]) ∧ DatR w N x f d (pad s n) w' := by
  have H := Lib.hid h
  have H1 := Lib.hid h1
  have hc1 := h.c1
  have hfr := h.fr 1
  have hlt := h.blt
  clear h h1
  by_cases hns : n ≤ s.size
  · have HR := Lib.hid (show DatR w N x f d (pad s n) w from ⟨x.A, x.c, by rw [pad_none hns]; exact H.out, fun a e => .inl (by rw [e]; rfl), Chg.refl _ _⟩)
    go_enter Tryz.func92, Tryz.ntmps92
    go_wp2
    refine ⟨rfl, .tuple #[], ?_, rfl, HR.out⟩
    simp [results, Tryz.results92, go_sem]
  · obtain ⟨i0, hi0, hz0, hz1, hz2⟩ := info_parts Crc.u8_info
    obtain ⟨v', w', hap0, ho', hg', hat⟩ := run_append_zeros (P := Tryz.prog) w.drew 0 30 3 30 5 i0 (.int .u8 0) .i64 .i64 Tryz.underlying30 Tryz.underlying3 hi0 hz0 hz1 hz2 rfl rfl _ s.size _ H.out.row.drew (n - s.size) (by omega) (by omega) (Nat.zero_le _)
    rw [show s.size + (n - s.size) = n by omega] at ho'
    replace hg' : w.grownBy w' _ := ⟨hg'.os, hg'.tape, hg'.output, hg'.size, hg'.block⟩
    obtain ⟨A', c', rfl⟩ := Crc.row_slice ho'
    have hap : (Builtin.append_ #[30, 3] 30 #[.slice x.A s.size x.c, .int .i64 (IntKind.i64.wrap ((n : Int) - (s.size : Int)))]).run Tryz.prog w.drew = .ok (.slice A' n c') w' := by
      rw [show IntKind.i64.wrap ((n : Int) - (s.size : Int)) = ((n - s.size : Nat) : Int) by rw [IntKind.wrap_i64]; omega]
      exact hap0
    have hne : ∀ a, x.A = some a → x.b ≠ a.block := fun a e e' => by
      have := H1.out
      unfold own at this
      rw [e] at this
      simp [e'] at this
    have hbx : w'.heap[x.b]? = w.heap[x.b]? := hg'.block x.b hlt (fun e => by
      cases hA : x.A with
      | none => rw [hA] at e; cases e
      | some a =>
        rw [hA] at e
        injection e with e
        exact hne a hA e)
    have hc1' : w'.cell? ⟨x.b, 1, none⟩ = some (.slice x.A s.size x.c) := (World.cell?_of_block (w := w) hbx).trans hc1
    have hfr' : w'.frozen? ⟨x.b, 1, none⟩ = false := (World.frozen?_of_block (w := w) hbx).trans hfr
    have HR := Lib.hid (show DatR w N x f d (pad s n) (w'.setCell ⟨x.b, 1, none⟩ (.slice A' n c')) from by
      obtain ⟨ty, hbox⟩ := H.out.box
      have hlt' : x.b < w'.heap.size := Nat.lt_of_lt_of_le hlt hg'.size
      have hps : (pad s n).size = n := pad_size (by omega)
      have hoth : ∀ k, k ≠ x.b → (w'.setCell ⟨x.b, 1, none⟩ (.slice A' n c')).heap[k]? = w'.heap[k]? := fun k hk => Below.heap_setCell _ _ _ k hk
      have hAb : ∀ a, A' = some a → x.A.map (·.block) = some a.block ∨ w.heap.size ≤ a.block := fun a e => by
        rw [e] at hat
        rcases hat with hat | hat
        · left
          cases hA : x.A with
          | none => rw [hA] at hat; cases hat
          | some a0 =>
            rw [hA] at hat
            simp only [Value.ownBlock] at hat
            exact hat.symm
        · right
          simp only [Value.ownBlock, Option.some.injEq] at hat
          have : w.drew.heap.size = w.heap.size := rfl
          omega
      have hA'ne : ∀ a, A' = some a → a.block ≠ x.b := fun a e e' => by
        rcases hAb a e with h | h
        · cases hA : x.A with
          | none => rw [hA] at h; cases h
          | some a0 =>
            rw [hA] at h
            injection h with h
            exact hne a0 hA (e'.symm.trans h.symm)
        · omega
      refine ⟨A', c', ⟨⟨ty, ?_⟩, ?_, ?_⟩, hAb, ⟨hg'.os, hg'.tape, hg'.output, by simpa [World.setCell] using hg'.size, fun k hk hk' => ?_⟩⟩
      · rw [heap_setCell_same _ _ 1 _ _ (.slice A' n c') (hbx.trans hbox), hps]
        rfl
      · rw [hps, tx_pad]
        have he : Crc.u8s (Crc.tx s ++ List.replicate (n - s.size) 0) = Crc.u8s (Crc.tx s) ++ List.replicate (n - s.size) (.int .u8 0) := by
          unfold Crc.u8s
          rw [List.map_append, List.map_replicate]
          rfl
        rw [he]
        rcases ho' with ⟨r1, r2⟩
        refine ⟨r1, ?_⟩
        rcases r2 with r0 | ⟨q, cap, cur, e, hB, hh, hr⟩
        · exact .inl r0
        · have hA : A' = some ⟨q, 0, none⟩ := by injection e
          exact .inr ⟨q, cap, cur, e, hB, (hoth q (hA'ne _ hA)).trans hh, hr⟩
      · have hk := H.out.map
        cases hm : x.m with
        | none => rw [hm] at hk; exact hk
        | some g =>
          rw [hm] at hk
          obtain ⟨D, hD⟩ := hk
          have hgx : g ≠ x.b := fun e => by
            have := H1.out
            unfold own at this
            rw [hm] at this
            simp [e] at this
          refine ⟨D, hD.block ((hoth g hgx).trans (hg'.block g hD.own.lt (fun e => ?_)))⟩
          cases hA : x.A with
          | none => rw [hA] at e; cases e
          | some a =>
            rw [hA] at e
            injection e with e
            have := H1.out
            unfold own at this
            rw [hm, hA] at this
            simp [e] at this
      · have hkx : k ≠ x.b := fun e => hk' (own_mem.2 (.inl e))
        refine (hoth k hkx).trans (hg'.block k hk (fun e => ?_))
        cases hA : x.A with
        | none => rw [hA] at e; cases e
        | some a =>
          rw [hA] at e
          injection e with e
          exact hk' (own_mem.2 (.inr (.inr (by rw [hA, e]; rfl)))))
    have HAP := Lib.hid hap
    clear hap hap0 ho' hg' hat hne hbx
    go_enter Tryz.func92, Tryz.ntmps92
    go_upto_region 1 with fail
    go_region_law (refine step_append_zeros (w' := w') (by rfl) (.tmp 15) (.tmp 22) 30 3 (by rfl) _ _ (.slice A' n c') (by rfl) (by rfl) HAP.out ?_)
    all_goals go_wp2
    all_goals (go_end0; exact ⟨rfl, HR.out⟩)
end Trk
end Go.Proofs.YtkhkcfbacnkcnaaGreatDoor
/- The program's bytes from a place on. -/
namespace Go.Proofs.YtkhkcfbacnkcnaaGreatDoor
open Go.RowKit Go.MapKept
namespace Trk
open Tre (Nm Th fi isDirAt dirT goT goF setT dropT fileT addT zt)
open Pat (Txs)

/-- bytes, these ones from a place on -/
def ovl (l : List Nat) (a : Nat) (bs : List Nat) : List Nat := l.take a ++ bs ++ l.drop (a + bs.length)
def ovr (s : ByteArray) (a : Nat) (bs : List Nat) : ByteArray := if bs = [] then s else Crc.str (ovl (Crc.tx (pad s (a + bs.length))) a bs)
theorem ovl_len {l : List Nat} {a : Nat} {bs : List Nat} (h : a + bs.length ≤ l.length) : (ovl l a bs).length = l.length := by
  unfold ovl
  simp
  omega
theorem tx_byt (s : ByteArray) : Crc.Byt (Crc.tx s) := by
  intro b hb
  unfold Crc.tx at hb
  obtain ⟨u, _, rfl⟩ := List.mem_map.1 hb
  exact u.toNat_lt
theorem ovl_byt {l : List Nat} {a : Nat} {bs : List Nat} (h : Crc.Byt l) (h' : Crc.Byt bs) : Crc.Byt (ovl l a bs) := by
  intro b hb
  unfold ovl at hb
  rcases List.mem_append.1 hb with hb | hb
  · rcases List.mem_append.1 hb with hb | hb
    · exact h b (List.mem_of_mem_take hb)
    · exact h' b hb
  · exact h b (List.mem_of_mem_drop hb)
/-- a row, other values in it -/
theorem row_splice {w : World} {B n c g a : Nat} {t : TypeId} {xs cs : List Value} {cur : Array Value} (h : w.ownsRow B t 1 (.slice (some ⟨g, 0, none⟩) n c) n xs) (hg : w.heap[g]? = some (.cells cur t (0, 0))) (ha : a + cs.length ≤ n) :
    (w.setRow g (cur.toList.take a ++ cs ++ cur.toList.drop (a + cs.length)).toArray).ownsRow B t 1 (.slice (some ⟨g, 0, none⟩) n c) n (xs.take a ++ cs ++ xs.drop (a + cs.length)) := by
  rcases h with ⟨h1, h2⟩
  refine ⟨by simp; omega, ?_⟩
  rcases h2 with ⟨e, h0⟩ | ⟨q, cap, cur', e, hB, hh, hnc, hcm, hcs, ht⟩
  · cases e
  · injection e with e1 e2 e3
    injection e1 with e1
    injection e1 with e1
    subst e1 e3
    rw [hg] at hh
    injection hh with hh
    injection hh with hh
    subst hh
    refine .inr ⟨g, c, _, rfl, hB, setRow_heap w g cur _ t _ hg, hnc, hcm, ?_, ?_⟩
    · simp
      omega
    · rw [← ht]
      simp only [Nat.mul_one]
      rw [List.append_assoc, List.append_assoc, List.take_append, List.take_append, List.take_take, List.take_take, List.length_take, Array.length_toList, List.drop_take]
      rw [show min a cur.size = a by omega, show min n a = a by omega, show min a n = a by omega, List.take_of_length_le (show cs.length ≤ n - a by omega)]
      congr 3
      omega

set_option maxRecDepth 100000 in
set_option maxHeartbeats 1000000 in
theorem twrite_any (w : World) (N : Nat) (x : Nd) (f : ByteArray → Option Nat) (d : Bool) (s : ByteArray) (a m c : Nat) (B : Option Addr) (bs : List Nat) (h : Nod w N x f d s) (h1 : (own x).Nodup) (hs : s.size ≤ 268435456) (hm : bs.length = m) (hn : a + m ≤ 268435456)
    (hB : Crc.Bts w B bs) (hap : ∀ ad, B = some ad → bs ≠ [] → ad.block ∉ own x) :
    Calls Tryz.prog 66 #[.pointer (some ⟨x.b, 0, none⟩), .int .i64 (a : Int), .slice B m c] w fun e w' => e = .returned (.tuple #[]) ∧ DatR w N x f d (ovr s a bs) w' := by
  by_cases h0 : m = 0
  · have hb0 : bs = [] := List.eq_nil_of_length_eq_zero (by omega)
    have HR := Lib.hid (show DatR w N x f d (ovr s a bs) w from ⟨x.A, x.c, by unfold ovr; rw [if_pos hb0]; exact h, fun a e => .inl (by rw [e]; rfl), Chg.refl _ _⟩)
    clear h h1 hB hap hm hb0
    subst h0
    go_enter Tryz.func66, Tryz.ntmps66
    go_wp2
    refine ⟨rfl, .tuple #[], ?_, rfl, HR.out⟩
    simp [results, Tryz.results66, go_sem]
  · have hb0 : bs ≠ [] := fun e => by rw [e] at hm; simp at hm; omega
    have hgr := grow_any w N x f d s (a + m) h h1 hs hn
    rw [show ((a + m : Nat) : Int) = (a : Int) + (m : Int) by omega] at hgr
    have HG := Lib.hid hgr
    clear hgr
    have H := Lib.hid h
    have H1 := Lib.hid h1
    have HBB := Lib.hid hB
    have HAP := Lib.hid hap
    have HM := Lib.hid hm
    have hadd : IntKind.i64.wrap ((a : Int) + (m : Int)) = ((a + m : Nat) : Int) := by rw [IntKind.wrap_i64]; omega
    clear h h1 hB hap hm
    go_enter Tryz.func66, Tryz.ntmps66
    go_wp2_with fail
    refine HG.out.mono ?_
    rintro e w1 ⟨rfl, A1, c1, hN1, hA1, hc1⟩
    have hsz : (pad s (a + m)).size = max s.size (a + m) := by
      by_cases h : s.size ≤ a + m
      · rw [pad_size h]; omega
      · rw [pad_none (by omega)]; omega
    obtain ⟨n1, hn1⟩ : ∃ n1, n1 = (pad s (a + m)).size := ⟨_, rfl⟩
    have hrow := hN1.row
    rw [← hn1] at hrow
    have hpos : 0 < n1 := by omega
    obtain ⟨g, cur, hAe, hcur, hcs, hnc⟩ : ∃ g cur, A1 = some ⟨g, 0, none⟩ ∧ w1.heap[g]? = some (.cells cur 5 (0, 0)) ∧ cur.size = c1 ∧ n1 ≤ c1 := by
      rcases hrow.2 with ⟨e, h⟩ | ⟨g, cap, cur, e, _, hh, h1, _, hq, _⟩
      · omega
      · simp only [Value.slice.injEq] at e
        obtain ⟨e1, _, e3⟩ := e
        rw [← e3] at h1 hq
        exact ⟨g, cur, e1, hh, by omega, h1⟩
    subst hAe
    have hcell := hN1.c1
    rw [← hn1] at hcell
    have hsl : a + m ≤ n1 := by omega
    have hml := HM.out
    have hB1 : Crc.Bts w1 B bs := by
      refine ⟨HBB.out.byt, HBB.out.len, fun j hj => ?_⟩
      obtain ⟨b, o, e, hlt, hc⟩ := HBB.out.at' j hj
      exact ⟨b, o, e, Nat.lt_of_lt_of_le hlt hc1.size, (World.cell?_of_block (w := w) (a := ⟨b, o + j, none⟩) (hc1.block b hlt (HAP.out _ e hb0))).trans hc⟩
    obtain ⟨b, o, rfl⟩ : ∃ b o, B = some ⟨b, o, none⟩ := by
      obtain ⟨b, o, e, _⟩ := HBB.out.at' 0 (by omega)
      exact ⟨b, o, e⟩
    have hcl : (Crc.u8s bs).length = m := by simp [Crc.u8s, hml]
    have hcp := run_copy_row (P := Tryz.prog) w1 30 30 3 5 g a (n1 - a) (c1 - a) ⟨b, o, none⟩ m c cur 5 (Crc.u8s bs) Tryz.underlying30 (by kernel_rfl) hcur (by rw [hcl]; exact (Nat.min_eq_left (by omega)).symm) (fun j v hj => by
        have hjl : j < bs.length := by
          have := (List.getElem?_eq_some_iff.1 hj).1
          omega
        obtain ⟨b', o', e, _, hc'⟩ := hB1.at' j hjl
        injection e with e
        injection e with e1 e2
        subst e1 e2
        rw [Go.WideShapes.add_plain, hc', ← hj]
        simp [Crc.u8s, List.getElem?_eq_getElem hjl]) (by rw [hcl]; omega) (Crc.u8s_one bs)
    rw [hcl] at hcp
    have HR := Lib.hid (show DatR w N x f d (ovr s a bs) (w1.setRow g (cur.toList.take a ++ Crc.u8s bs ++ cur.toList.drop (a + m)).toArray) from by
      have hsp := row_splice (a := a) (cs := Crc.u8s bs) hrow hcur (by rw [hcl]; omega)
      rw [hcl] at hsp
      have hov : (ovr s a bs).size = n1 := by
        unfold ovr
        rw [if_neg hb0, Crc.str_size, ovl_len (by rw [Crc.tx_len, hml, ← hn1]; omega), Crc.tx_len, hml, hn1]
      have htx : Crc.u8s (Crc.tx (ovr s a bs)) = (Crc.u8s (Crc.tx (pad s (a + m)))).take a ++ Crc.u8s bs ++ (Crc.u8s (Crc.tx (pad s (a + m)))).drop (a + m) := by
        unfold ovr
        rw [if_neg hb0, Crc.tx_str (ovl_byt (tx_byt _) HBB.out.byt), hml]
        unfold ovl Crc.u8s
        rw [List.map_append, List.map_append, List.map_take, List.map_drop, hml]
      have hone : (own (⟨x.b, some ⟨g, 0, none⟩, c1, x.m⟩ : Nd)).Nodup := dat_nodup H1.out (fun i hi => H.out.lt i hi) hA1
      have hoth : ∀ k, k ≠ g → (w1.setRow g (cur.toList.take a ++ Crc.u8s bs ++ cur.toList.drop (a + m)).toArray).heap[k]? = w1.heap[k]? := fun k hk => setRow_other w1 g k _ hk
      have hbg : x.b ≠ g := fun e => by
        unfold own at hone
        simp [e] at hone
      refine ⟨some ⟨g, 0, none⟩, c1, ⟨?_, ?_, ?_⟩, hA1, ⟨hc1.os, hc1.tape, hc1.output, by simpa [World.setRow] using hc1.size, fun k hk hk' => ?_⟩⟩
      · obtain ⟨ty, hb⟩ := hN1.box
        exact ⟨ty, by rw [hov, hoth _ hbg, hn1]; exact hb⟩
      · rw [hov, htx]
        exact hsp
      · have hk := hN1.map
        cases hm' : x.m with
        | none => rw [hm'] at hk; exact hk
        | some q =>
          rw [hm'] at hk
          obtain ⟨D, hD⟩ := hk
          refine ⟨D, hD.block (hoth q (fun e => ?_))⟩
          unfold own at hone
          rw [hm'] at hone
          simp [e] at hone
      · refine (hoth k (fun e => ?_)).trans (hc1.block k hk hk')
        rcases hA1 _ rfl with h | h
        · exact hk' (own_mem.2 (.inr (.inr (by rw [h, e]))))
        · simp only at h
          omega)
    clear hN1 hA1 hc1 hsz hn1 hrow hcur hcs hB1 hcl hml
    go_wp2_with fail
    rw [← List.append_assoc]
    go_end0
    exact ⟨rfl, HR.out⟩
end Trk
end Go.Proofs.YtkhkcfbacnkcnaaGreatDoor
/- Rows that are sorted by putting one in at a time: of no program. -/
namespace Go.Proofs.YtkhkcfbacnkcnaaGreatDoor
open Go.RowKit Go.MapKept
namespace Tre

section
variable {α : Type}
/-- put in ahead of the first one that isn't ahead of it -/
def ins (lt : α → α → Bool) : List α → α → List α
  | [], x => [x]
  | y :: o, x => if lt y x = true then y :: ins lt o x else x :: y :: o
theorem ins_len (lt : α → α → Bool) : ∀ (o : List α) (x : α), (ins lt o x).length = o.length + 1
  | [], _ => rfl
  | y :: o, x => by
    rw [ins]
    split
    · rw [List.length_cons, ins_len lt o x]; rfl
    · rfl
/-- where it is put in -/
theorem ins_at (lt : α → α → Bool) : ∀ (o : List α) (x : α) (a : Nat), a ≤ o.length → (∀ j (h : j < o.length), j < a → lt o[j] x = true) → (∀ h : a < o.length, lt o[a] x = false) → ins lt o x = o.take a ++ x :: o.drop a
  | [], x, a, h, _, _ => by
    have : a = 0 := by simpa using h
    subst this
    rfl
  | y :: o, x, 0, _, _, h2 => by
    have := h2 (by simp)
    rw [ins, if_neg (by simpa using this)]
    rfl
  | y :: o, x, a + 1, h, h1, h2 => by
    have hy : lt y x = true := h1 0 (by simp) (by omega)
    rw [ins, if_pos hy, ins_at lt o x a (by simpa using h) (fun j hj hja => h1 (j + 1) (by rw [List.length_cons]; omega) (by omega)) (fun ha => h2 (by rw [List.length_cons]; omega))]
    rfl
/-- all put in, one by one -/
def sorted (lt : α → α → Bool) (l : List α) : List α := l.foldl (ins lt) []
theorem sorted_snoc (lt : α → α → Bool) (l : List α) (x : α) : sorted lt (l ++ [x]) = ins lt (sorted lt l) x := by
  unfold sorted
  rw [List.foldl_append]
  rfl
theorem sorted_len (lt : α → α → Bool) (l : List α) : (sorted lt l).length = l.length := by
  have key : ∀ (l o : List α), (l.foldl (ins lt) o).length = o.length + l.length := by
    intro l
    induction l with
    | nil => intro o; rfl
    | cons x l ih => intro o; rw [List.foldl_cons, ih, ins_len, List.length_cons]; omega
  have := key l []
  simpa [sorted] using this
end

/-- which of two things stands ahead -/
def ahead (x y : Th) : Bool := Pat.bef x.1 y.1
/-- all things in order -/
def allT (t : List Th) : List Th := sorted ahead t
/-- a directory's names, rising -/
def kidT (t : List Th) (n : Nm) : List ByteArray := sorted Pat.less ((t.filter fun x => decide (x.1.length = n.length + 1 ∧ x.1.take n.length = n)).map fun x => x.1.getD n.length ByteArray.empty)
end Tre
end Go.Proofs.YtkhkcfbacnkcnaaGreatDoor
/- All things in order. -/
namespace Go.Proofs.YtkhkcfbacnkcnaaGreatDoor
open Go.RowKit Go.MapKept
namespace Tre
open Pat (Txs)

/-- which of two things, with where their names lie, stands ahead -/
def aheadG (x y : Tg) : Bool := Pat.bef x.2.2.1 y.2.2.1
theorem ins_map {α β : Type} (f : α → β) (lt : α → α → Bool) (lt' : β → β → Bool) (h : ∀ x y, lt x y = lt' (f x) (f y)) : ∀ (o : List α) (x : α), (ins lt o x).map f = ins lt' (o.map f) (f x)
  | [], _ => rfl
  | y :: o, x => by
    rw [ins, List.map_cons, ins, ← h]
    split
    · rw [List.map_cons, ins_map f lt lt' h o x]
    · rfl
theorem sorted_map {α β : Type} (f : α → β) (lt : α → α → Bool) (lt' : β → β → Bool) (h : ∀ x y, lt x y = lt' (f x) (f y)) (l : List α) : (sorted lt l).map f = sorted lt' (l.map f) := by
  have key : ∀ (l o : List α), (l.foldl (ins lt) o).map f = (l.map f).foldl (ins lt') (o.map f) := by
    intro l
    induction l with
    | nil => intro o; rfl
    | cons x l ih => intro o; rw [List.foldl_cons, ih, List.map_cons, List.foldl_cons, ins_map f lt lt' h]
  exact key l []
theorem ths_sorted (l : List Tg) : ths (sorted aheadG l) = allT (ths l) := sorted_map _ aheadG ahead (fun _ _ => rfl) l
theorem mem_ins {α : Type} (lt : α → α → Bool) : ∀ (o : List α) (x y : α), y ∈ ins lt o x → y = x ∨ y ∈ o
  | [], x, y, h => by simpa [ins] using h
  | z :: o, x, y, h => by
    rw [ins] at h
    split at h
    · rcases List.mem_cons.1 h with rfl | h
      · exact .inr (by simp)
      · rcases mem_ins lt o x y h with h | h
        · exact .inl h
        · exact .inr (by simp [h])
    · rcases List.mem_cons.1 h with rfl | h
      · exact .inl rfl
      · exact .inr h
theorem mem_sorted {α : Type} (lt : α → α → Bool) (l : List α) (y : α) (h : y ∈ sorted lt l) : y ∈ l := by
  have key : ∀ (l o : List α), y ∈ l.foldl (ins lt) o → y ∈ o ∨ y ∈ l := by
    intro l
    induction l with
    | nil => intro o h; exact .inl h
    | cons x l ih =>
      intro o h
      rw [List.foldl_cons] at h
      rcases ih _ h with h | h
      · rcases mem_ins lt o x y h with rfl | h
        · exact .inr (by simp)
        · exact .inl h
      · exact .inr (by simp [h])
  simpa using key l [] h

/-- things that are answered -/
def LsR (w : World) (t : List Th) (e : Ending) (w' : World) : Prop :=
  ∃ (A : Option Addr) (c : Nat) (l : List Tg), e = .returned (.slice A l.length c) ∧ Ths w' A l ∧ ths l = t ∧ Below w.heap.size w w'

/-- a thing in a block of its own -/
structure Bg (w : World) (b : Nat) (g : Tg) : Prop where
  lt : b < w.heap.size
  c0 : w.cell? ⟨b, 0, none⟩ = some (.slice g.1 g.2.2.1.length g.2.1)
  c1 : w.cell? ⟨b, 1, none⟩ = some (.bool g.2.2.2.1)
  c2 : w.cell? ⟨b, 2, none⟩ = some (.string g.2.2.2.2)
theorem Bg.keep {w w' : World} {b : Nat} {g : Tg} (h : Bg w b g) (hb : Below w.heap.size w w') : Bg w' b g :=
  ⟨Nat.lt_of_lt_of_le h.lt hb.size, (hb.cell (p := ⟨b, 0, none⟩) h.lt).trans h.c0, (hb.cell (p := ⟨b, 1, none⟩) h.lt).trans h.c1, (hb.cell (p := ⟨b, 2, none⟩) h.lt).trans h.c2⟩
theorem bg_new (w : World) (g : Tg) (t : TypeId) : Bg (w.alloc (.cells #[.slice g.1 g.2.2.1.length g.2.1, .bool g.2.2.2.1, .string g.2.2.2.2] t)) w.heap.size g :=
  ⟨by simp, Crc.alloc_cell w _ t 0, Crc.alloc_cell w _ t 1, Crc.alloc_cell w _ t 2⟩

theorem refBefore_at (w : World) (A B : Option Addr) (c d n m : Nat) (x y : List ByteArray) (hn : x.length = n) (hm : y.length = m) (hx : Txs w A x) (hy : Txs w B y) (v : Bool) (hv : Pat.bef x y = v) :
    Calls Tryz.prog 77 #[.slice A n c, .slice B m d] w fun e w' => e = .returned (.bool v) ∧ ∃ n, w' = w.drewN n := by
  subst hn hm hv
  exact Pat.refBefore_any w A B c d x y hx hy
theorem Ths.drewN {w : World} {A : Option Addr} {l : List Tg} (h : Ths w A l) (n : Nat) : Ths (w.drewN n) A l := h.keep (Pat.below_drewN (Below.refl _ _) n)
theorem Bg.drewN {w : World} {b : Nat} {g : Tg} (h : Bg w b g) (n : Nat) : Bg (w.drewN n) b g := h.keep (Pat.below_drewN (Below.refl _ _) n)
/-- a row of one thing, just made -/
theorem own_one (w : World) (g : Tg) : (w.alloc (.cells #[.slice g.1 g.2.2.1.length g.2.1, .bool g.2.2.2.1, .string g.2.2.2.2] 93)).ownsRow w.heap.size 93 3 (.slice (some ⟨w.heap.size, 0, none⟩) 1 1) 1 (tcells [g]) :=
  ⟨rfl, .inr ⟨w.heap.size, 1, #[.slice g.1 g.2.2.1.length g.2.1, .bool g.2.2.2.1, .string g.2.2.2.2], rfl, Nat.le_refl _, heap_alloc_new w _, Nat.le_refl _, by unfold maxLen; omega, rfl, rfl⟩⟩

/-- what stands behind a thing's being put in: the new row -/
def Put (w w' : World) (o : List Tg) (g : Tg) (G : Option Addr) (n gc : Nat) : Prop := Ths w' G (ins aheadG o g) ∧ (G = none → gc = 0) ∧ n ≤ gc ∧ Below w.heap.size w w'

set_option maxRecDepth 100000 in
set_option maxHeartbeats 4000000 in
theorem all_any (w : World) (A : Option Addr) (c q : Nat) (l : List Tg) (hq : l.length = q) (h : Ths w A l) (hl : q ≤ 100000) :
    Calls Tryz.prog 45 #[tv A q c] w (LsR w (allT (ths l))) := by
  have HB0 := Lib.hid ((Below.refl w.heap.size w).alloc (Nat.le_refl _) (.cells #[.slice A q c] 29))
  have HW := Lib.hid h
  have HQ := Lib.hid hq
  obtain ⟨i0, hi0, hz0, hz1, hz2⟩ := Pat.info_parts thing_info
  clear h hq
  go_enter Tryz.func45, Tryz.ntmps45
  go_wp2
  go_loopw [3, 11] (fun sv i wr => ∃ (k gc : Nat) (G : Option Addr), k ≤ q ∧ sv = .slice G k gc ∧ i = .int .i64 (k : Int) ∧ Below w.heap.size w wr ∧ Ths wr G (sorted aheadG (l.take k)) ∧ (G = none → gc = 0) ∧ k ≤ gc) (fun _ i _ => q - (intOf i).toNat)
  case atStart => exact ⟨0, 0, none, Nat.zero_le _, rfl, rfl, HB0.out, ths_nil _ _, fun _ => rfl, Nat.le_refl _⟩
  case round =>
    obtain ⟨k, gc, G, hk, rfl, rfl, hb, ho, hG, hkg⟩ := hrel
    have HB := Lib.hid hb
    have HO := Lib.hid ho
    have HG := Lib.hid hG
    have hlo : (sorted aheadG (l.take k)).length = k := by rw [sorted_len, List.length_take, HQ.out]; omega
    have HLO := Lib.hid hlo
    clear hb ho hG hlo
    by_cases hlt : k < q
    · obtain ⟨b, o, rfl, _, h0, h1, h2⟩ := (HW.out.keep HB.out).at' k (by rw [HQ.out]; exact hlt)
      have HTK := Lib.hid (show l.take (k + 1) = l.take k ++ [l[k]'(by rw [HQ.out]; exact hlt)] from List.take_succ_eq_append_getElem (by rw [HQ.out]; exact hlt))
      have HM := Lib.hid (List.getElem_mem (show k < l.length by rw [HQ.out]; exact hlt))
      generalize l[k]'(by rw [HQ.out]; exact hlt) = g at *
      have HGN := Lib.hid (bg_new wr g 93)
      have HB1 := Lib.hid (HB.out.alloc HB.out.size (.cells #[.slice g.1 g.2.2.1.length g.2.1, .bool g.2.2.2.1, .string g.2.2.2.2] 93))
      have HO1 := Lib.hid (HO.out.alloc (.cells #[.slice g.1 g.2.2.1.length g.2.1, .bool g.2.2.2.1, .string g.2.2.2.2] 93))
      have HP := Lib.hid (show w.heap.size ≤ wr.heap.size from HB.out.size)
      have HIN := Lib.hid (show sorted aheadG (l.take (k + 1)) = ins aheadG (sorted aheadG (l.take k)) g by rw [HTK.out, sorted_snoc])
      have HNG := Lib.hid ((HW.out.nm g HM.out).1.keep HB1.out)
      generalize sorted aheadG (l.take k) = o at *
      obtain ⟨wo, hwo⟩ : ∃ wo, wo = wr := ⟨_, rfl⟩
      subst hwo
      go_wp2
      generalize wo.alloc (.cells #[.slice g.1 g.2.2.1.length g.2.1, .bool g.2.2.2.1, .string g.2.2.2.2] 93) = w1 at *
      generalize wo.heap.size = p at *
      go_loopw [6] (fun iv wr => ∃ (a n : Nat), a ≤ k ∧ iv = .int .i64 (a : Int) ∧ wr = w1.drewN n ∧ ∀ j (h : j < o.length), j < a → aheadG o[j] g = true) (fun iv _ => k - (intOf iv).toNat)
      case atStart => exact ⟨0, 0, Nat.zero_le _, rfl, rfl, fun j _ h => absurd h (by omega)⟩
      case round =>
        obtain ⟨a, n, hak, rfl, hw, hr⟩ := hrel
        have HR := Lib.hid hr
        have HOw := Lib.hid (show Ths wr G o by rw [hw]; exact HO1.out.drewN n)
        have HGw := Lib.hid (show Bg wr p g by rw [hw]; exact HGN.out.drewN n)
        have HNw := Lib.hid (show Txs wr g.1 g.2.2.1 by rw [hw]; exact HNG.out.drewN n)
        have HBw := Lib.hid (show Below w.heap.size w wr by rw [hw]; exact Pat.below_drewN HB1.out n)
        have HWR := Lib.hid hw
        have hbc := HGw.out.c0
        clear hw hr
        by_cases hcont : ∃ h : a < o.length, aheadG o[a] g = true
        · obtain ⟨hlo, hah⟩ := hcont
          have hlk : a < k := by rw [← HLO.out]; exact hlo
          obtain ⟨b', o', rfl, _, d0, d1, d2⟩ := HOw.out.at' a hlo
          have hnm := (HOw.out.nm _ (List.getElem_mem hlo)).1
          have HRN := Lib.hid (show ∀ j (h : j < o.length), j < a + 1 → aheadG o[j] g = true from fun j hj hja => by
            rcases Nat.lt_or_ge j a with h | h
            · exact HR.out j hj h
            · obtain rfl : j = a := by omega
              exact hah)
          generalize o[a] = y at *
          have HBF := Lib.hid (fun m => refBefore_at (wr.drewN m) y.1 g.1 y.2.1 g.2.1 y.2.2.1.length g.2.2.1.length y.2.2.1 g.2.2.1 rfl rfl (hnm.drewN m) (HNw.out.drewN m) true hah)
          have hi0 : (0 : Int) ≤ (a : Int) := by omega
          have hi1 : (a : Int) < (k : Int) := by omega
          clear hah hnm
          go_wp2_with fail
          go_quiet ((go_at_call 77; exact Calls.quiet_of (HBF.out _)))
          go_wp2
          exact ⟨⟨a + 1, n + nq, by omega, by go_num, by rw [HWR.out, World.drewN_drewN], HRN.out⟩, by simp [intOf]; omega⟩
        · have hka0 : (0 : Int) ≤ (a : Int) := by omega
          have hak1 : (a : Int) ≤ (k : Int) := by omega
          obtain ⟨A2, hs2, hA2, ht2⟩ := ths_from G k gc a hak hkg HG.out
          obtain ⟨A1, hs1, hA1, ht1⟩ := ths_upto G k gc a hak hkg HG.out
          have hagc : (a : Int) ≤ (gc : Int) := by omega
          have HINS := Lib.hid (ins_at aheadG o g a (by rw [HLO.out]; exact hak) HR.out (fun h => by
            by_cases hq : aheadG o[a] g = true
            · exact absurd ⟨h, hq⟩ hcont
            · exact Bool.eq_false_iff.2 hq))
          have hcase : ¬ a < k ∨ ∃ h : a < o.length, aheadG o[a] g = false := by
            by_cases h : a < o.length
            · refine .inr ⟨h, ?_⟩
              by_cases hq : aheadG o[a] g = true
              · exact absurd ⟨h, hq⟩ hcont
              · exact Bool.eq_false_iff.2 hq
            · exact .inl (by rw [← HLO.out]; exact h)
          have HA1 := Lib.hid hA1
          have HA2 := Lib.hid hA2
          have HT1 := Lib.hid ht1
          have HT2 := Lib.hid ht2
          clear hcont hA1 hA2 ht1 ht2
          rcases hcase with hlt2 | ⟨hlo, hah⟩
          all_goals (
            first
            | (have hi1 : ¬ (a : Int) < (k : Int) := by omega
               go_wp2_with fail
               go_quiet (fail)
               go_upto_region 8 with fail)
            | (have hlk : a < k := by rw [← HLO.out]; exact hlo
               obtain ⟨b', o', rfl, _, d0, d1, d2⟩ := HOw.out.at' a hlo
               have hnm := (HOw.out.nm _ (List.getElem_mem hlo)).1
               generalize o[a] = y at *
               have HBF := Lib.hid (fun m => refBefore_at (wr.drewN m) y.1 g.1 y.2.1 g.2.1 y.2.2.1.length g.2.2.1.length y.2.2.1 g.2.2.1 rfl rfl (hnm.drewN m) (HNw.out.drewN m) false hah)
               have hi1 : (a : Int) < (k : Int) := by omega
               clear hah hnm
               go_wp2_with fail
               go_quiet ((go_at_call 77; exact Calls.quiet_of (HBF.out _)))
               go_upto_region 8 with fail)
            have HO2 := Lib.hid (HOw.out.drewN nq)
            have HG2 := Lib.hid (HGw.out.drewN nq)
            have HB2 := Lib.hid (Pat.below_drewN HBw.out nq)
            have HN2 := Lib.hid (HNw.out.drewN nq)
            clear HOw HGw HNw HBw hbc HWR
            generalize wr.drewN nq = w2 at *
            have hb0 := HG2.out.c0
            have hb1 := HG2.out.c1
            have hb2 := HG2.out.c2
            have hgl := HG2.out.lt
            have hbA := ((Below.refl w2.heap.size w2).alloc (Nat.le_refl _) (.cells #[.slice g.1 g.2.2.1.length g.2.1, .bool g.2.2.2.1, .string g.2.2.2.2] 93)).drew
            have hownA := (own_one w2 g).drew
            obtain ⟨R1, r1, w3, hap1, hown1, hgr1⟩ := app_ths (gc - a) (k - a) (by rw [List.length_drop, HLO.out]) hownA (by simp) (HT2.out _ o HLO.out (HO2.out.keep hbA)) HA2.out (by omega)
            have hbB : Below w2.heap.size w2 w3 := hbA.grown hgr1 (by simp) (fun k hk => row_base_lt3 hownA hk)
            obtain ⟨z, hz⟩ : ∃ z, z = 1 + (k - a) := ⟨_, rfl⟩
            rw [← hz] at hap1 hown1
            have hth3 := (own_ths (l := g :: o.drop a) (by
                rw [show tcells (g :: o.drop a) = tcells [g] ++ tcells (o.drop a) from tcells_append [g] (o.drop a)]
                exact hown1) (by omega)
              (fun x hx => by
                rcases List.mem_cons.1 hx with rfl | hx
                · exact ⟨HN2.out.keep hbB, (HW.out.nm _ HM.out).2⟩
                · exact (HO2.out.keep hbB).nm x (List.mem_of_mem_drop hx))
              (fun x hx => by
                rcases List.mem_cons.1 hx with rfl | hx
                · exact HW.out.sz _ HM.out
                · exact HO2.out.sz x (List.mem_of_mem_drop hx))).1
            have hR1 : R1 = none → r1 = 0 := fun e => by
              subst e
              rcases hown1.2 with ⟨_, h0⟩ | ⟨_, _, _, e, _⟩
              · omega
              · injection e with e
                cases e
            have hown0 : (w3.alloc (.cells #[] 93)).ownsRow w3.heap.size 93 3 (.slice (some ⟨w3.heap.size, 0, none⟩) 0 0) 0 [] := World.ownsRow_made w3 #[] 0 (Nat.le_refl _) (by unfold maxLen; omega) rfl
            have hbC := (Below.refl w3.heap.size w3).alloc (Nat.le_refl _) (.cells #[] 93)
            obtain ⟨R2, r2, w4, hap2, hown2, hgr2⟩ := app_ths gc a (by rw [List.length_take, HLO.out]; omega) hown0 (by simp) (HT1.out _ o HLO.out ((HO2.out.keep hbB).keep hbC)) HA1.out (by omega)
            rw [Nat.zero_add, List.nil_append] at hown2
            rw [Nat.zero_add] at hap2
            have hbD : Below w3.heap.size w3 w4 := hbC.grown hgr2 (by simp) (fun k hk => row_base_lt3 hown0 hk)
            obtain ⟨R3, r3, w5, hap3, hown3, hgr3⟩ := app_ths r1 z (by rw [List.length_cons, List.length_drop, HLO.out]; omega) hown2 hbD.size (hth3.keep hbD) hR1 (by omega)
            have hbE : Below w3.heap.size w3 w5 := hbD.grown hgr3 hbD.size (fun k hk => row_base_lt3 hown2 hk)
            have haz : a + z = k + 1 := by omega
            rw [haz] at hap3 hown3
            have HB5 := Lib.hid (HB2.out.trans ((hbB.trans (hbE.mono hbB.size)).mono HB2.out.size))
            have hth5 := (own_ths (l := o.take a ++ g :: o.drop a) (by rw [tcells_append]; exact hown3) (by omega)
              (fun x hx => by
                rcases List.mem_append.1 hx with hx | hx
                · exact ((HO2.out.keep hbB).keep hbE).nm x (List.mem_of_mem_take hx)
                · exact (hth3.keep hbE).nm x hx)
              (fun x hx => by
                rcases List.mem_append.1 hx with hx | hx
                · exact HO2.out.sz x (List.mem_of_mem_take hx)
                · exact hth3.sz x hx)).1
            have HX5 := Lib.hid (show Ths w5 R3 (sorted aheadG (l.take (k + 1))) ∧ (R3 = none → r3 = 0) ∧ k + 1 ≤ r3 from by
              rw [HIN.out, HINS.out]
              refine ⟨hth5, fun e => ?_, Pat.row_cap hown3⟩
              subst e
              rcases hown3.2 with ⟨_, h0⟩ | ⟨_, _, _, e, _⟩
              · omega
              · injection e with e
                cases e)
            have hb3 := hb0
            have hbx0 := (hbB.cell (p := ⟨p, 0, none⟩) hgl).trans hb0
            have hbx1 := (hbB.cell (p := ⟨p, 1, none⟩) hgl).trans hb1
            have hbx2 := (hbB.cell (p := ⟨p, 2, none⟩) hgl).trans hb2
            have hby0 := (hbA.cell (p := ⟨p, 0, none⟩) hgl).trans hb0
            have hby1 := (hbA.cell (p := ⟨p, 1, none⟩) hgl).trans hb1
            have hby2 := (hbA.cell (p := ⟨p, 2, none⟩) hgl).trans hb2
            have HAP1 := Lib.hid hap1
            have HAP2 := Lib.hid hap2
            have HAP3 := Lib.hid hap3
            clear hap1 hap2 hap3 hown0 hown1 hown2 hown3 hgr1 hgr2 hgr3 hbA hbB hbC hbD hbE hth3 hth5 hR1 hownA haz hz hb3
            go_wp2_with fail
            go_region_held3 (fun W' => W'.cell? ⟨p, 0, none⟩ = some (.slice g.1 g.2.2.1.length g.2.1) ∧ W'.cell? ⟨p, 1, none⟩ = some (.bool g.2.2.2.1) ∧ W'.cell? ⟨p, 2, none⟩ = some (.string g.2.2.2.2)) (go_keep)
              (first
              | ((refine step_append_run (by rfl) (.tmp 32) (.tmp 35) 27 (by rfl) _ _ _ (by rfl) (by rfl) HAP1.out ?_)))
            go_wp2_with (first
              | (at_builtin; refine Pat.wpList_append_run rfl (.tmp 37) (.tmp 40) 27 rfl _ _ _ rfl rfl HAP2.out ?_)
              | (at_builtin; refine Pat.wpList_append_run rfl (.tmp 41) (.tmp 42) 27 rfl _ _ _ rfl rfl HAP3.out ?_))
            exact ⟨⟨k + 1, r3, R3, by omega, rfl, by go_num, HB5.out, HX5.out.1, HX5.out.2.1, HX5.out.2.2⟩, by simp [intOf]; omega⟩)
    · obtain rfl : k = q := by omega
      have HX := Lib.hid (show LsR w (allT (ths l)) (.returned (.slice G k gc)) wr from by
        have := HO.out
        rw [List.take_of_length_le (by rw [HQ.out]; exact Nat.le_refl _)] at this
        exact ⟨G, gc, _, by rw [sorted_len, HQ.out], this, ths_sorted l, HB.out⟩)
      go_wp2
      go_ret
      exact HX.out
end Tre
end Go.Proofs.YtkhkcfbacnkcnaaGreatDoor
/- A directory's names, rising. -/
namespace Go.Proofs.YtkhkcfbacnkcnaaGreatDoor
open Go.RowKit Go.MapKept
namespace Tre
open Pat (Txs strs)

/-- names behind a row of the call's own -/
theorem app_txs {W : World} {A : Option Addr} {l : List ByteArray} {B n : Nat} {v : Value} {xs : List Value} (c m : Nat) (hm : l.length = m) (hown : W.ownsRow B 9 1 v n xs) (hB : B ≤ W.heap.size) (h : Txs W A l) (hA : A = none → c = 0) (hn : n ≤ 1000000) (hl : m ≤ 1000000) :
    ∃ (G : Option Addr) (gc : Nat) (w' : World), (Builtin.append_ #[33, 33] 33 #[v, .slice A m c]).run Tryz.prog W = .ok (.slice G (n + m) gc) w' ∧ w'.ownsRow B 9 1 (.slice G (n + m) gc) (n + m) (xs ++ strs l) ∧ W.grownBy w' v.ownBlock := by
  subst hm
  obtain ⟨i0, hi0, hz0, hz1, hz2⟩ := Pat.info_parts Pat.str_info
  cases A with
  | none =>
    have hl0 : l = [] := by
      cases l with
      | nil => rfl
      | cons b l =>
        obtain ⟨_, _, e, _⟩ := h.at' 0 (by simp)
        cases e
    subst hl0
    rw [hA rfl]
    obtain ⟨G, gc, rfl⟩ := Pat.row_slice hown
    refine ⟨G, gc, W, run_append_owned_none (P := Tryz.prog) _ B 33 33 9 i0 1 Tryz.underlying33 hi0 _ n xs hown, by simpa using hown, ⟨rfl, rfl, rfl, Nat.le_refl _, fun _ _ _ => rfl⟩⟩
  | some ad =>
    obtain ⟨v', w', hr, h2, h3, _, _⟩ := run_append_own_at (P := Tryz.prog) W B 33 33 9 i0 (.string ByteArray.empty) 1 16 Tryz.underlying33 hi0 hz0 hz1 hz2 rfl (by decide) _ n xs hown ad l.length c (strs l) (by simp [strs]) (Pat.txs_news h) (Pat.strs_one l) (by unfold maxLen; omega) (by omega) hB
    obtain ⟨G, gc, rfl⟩ := Pat.row_slice h2
    exact ⟨G, gc, w', hr, h2, h3⟩
theorem und_tx : Tryz.prog.underlying 33 = some (.slice (Tryz.prog.elem 33)) := by kernel_rfl
theorem size_tx (W : World) : (sizeOf (Tryz.prog.elem 33)).run Tryz.prog W = .ok 1 W := by kernel_rfl
/-- names up to a place -/
theorem txs_upto (A : Option Addr) (n c q : Nat) (hq : q ≤ n) (hn : n ≤ c) (hA : A = none → c = 0) : ∃ B : Option Addr, (∀ W, (Instr.slice 33 (.slice A n c) none (some (.int .i64 (q : Int))) none).run Tryz.prog W = .ok (.slice B q c) W) ∧ (B = none → c = 0) ∧ ∀ W (l : List ByteArray), l.length = n → Txs W A l → Txs W B (l.take q) := by
  refine ⟨if c = 0 then A else A.map (·.add (0 * 1)), fun W => ?_, fun e => ?_, fun W l hl hb => ?_⟩
  · rw [run_slice_h _ _ _ _ _ und_tx .i64 (q : Int) (by omega) (by omega), size_tx]
    rfl
  · split at e
    · assumption
    · exact hA (by simpa using e)
  · refine ⟨fun g hg => hb.size g (List.mem_of_mem_take hg), by rw [List.length_take]; have := hb.len; omega, fun j hj => ?_⟩
    rw [List.length_take] at hj
    obtain ⟨b, o, rfl, h1, h2⟩ := hb.at' j (by omega)
    refine ⟨b, o, ?_, h1, ?_⟩
    · split
      · rfl
      · rw [Option.map_some, Go.WideShapes.add_plain]
        rfl
    · rw [List.getElem_take]
      exact h2
/-- names from a place on -/
theorem txs_from (A : Option Addr) (n c q : Nat) (hq : q ≤ n) (hn : n ≤ c) (hA : A = none → c = 0) : ∃ B : Option Addr, (∀ W, (Instr.slice 33 (.slice A n c) (some (.int .i64 (q : Int))) none none).run Tryz.prog W = .ok (.slice B (n - q) (c - q)) W) ∧ (B = none → c - q = 0) ∧ ∀ W (l : List ByteArray), l.length = n → Txs W A l → Txs W B (l.drop q) := by
  refine ⟨if c = q then A else A.map (·.add (q * 1)), fun W => ?_, fun e => ?_, fun W l hl hb => ?_⟩
  · rw [run_slice_l _ _ _ _ _ und_tx .i64 (q : Int) (by omega) (by omega), size_tx]
    rfl
  · split at e
    · omega
    · have := hA (by simpa using e)
      omega
  · refine ⟨fun g hg => hb.size g (List.mem_of_mem_drop hg), by rw [List.length_drop]; have := hb.len; omega, fun j hj => ?_⟩
    rw [List.length_drop] at hj
    obtain ⟨b, o, rfl, h1, h2⟩ := hb.at' (q + j) (by omega)
    refine ⟨b, o + q, ?_, h1, ?_⟩
    · rw [if_neg (by omega), Option.map_some, Go.WideShapes.add_plain, Nat.mul_one]
    · rw [List.getElem_drop, Nat.add_assoc]
      exact h2

/-- the names in a directory, as they stand -/
def kidL (t : List Th) (n : Nm) : List ByteArray := (t.filter fun x => decide (x.1.length = n.length + 1 ∧ x.1.take n.length = n)).map fun x => x.1.getD n.length ByteArray.empty
theorem kidT_eq (t : List Th) (n : Nm) : kidT t n = sorted Pat.less (kidL t n) := rfl
theorem kidL_yes {t : List Th} {n : Nm} {x : Th} (h : x.1.length = n.length + 1 ∧ x.1.take n.length = n) : kidL (t ++ [x]) n = kidL t n ++ [x.1.getD n.length ByteArray.empty] := by
  unfold kidL
  rw [List.filter_append, List.map_append, List.filter_cons_of_pos (by simpa using h)]
  rfl
theorem kidL_no {t : List Th} {n : Nm} {x : Th} (h : ¬ (x.1.length = n.length + 1 ∧ x.1.take n.length = n)) : kidL (t ++ [x]) n = kidL t n := by
  unfold kidL
  rw [List.filter_append, List.map_append, List.filter_cons_of_neg (by simpa using h)]
  simp
theorem kidL_len (t : List Th) (n : Nm) : (kidL t n).length ≤ t.length := by
  unfold kidL
  rw [List.length_map]
  exact List.length_filter_le _ _

/-- in a block that wasn't there before -/
def Fr (w : World) (A : Option Addr) : Prop := ∀ a, A = some a → w.heap.size ≤ a.block
theorem fr_none (w : World) : Fr w none := fun _ e => by cases e
theorem Fr.back {w w' : World} {A : Option Addr} (h : Fr w' A) (hs : w.heap.size ≤ w'.heap.size) : Fr w A := fun a e => Nat.le_trans hs (h a e)
theorem fr_row {w w' : World} {B n c y : Nat} {t : TypeId} {G : Option Addr} {xs : List Value} (h : w'.ownsRow B t 1 (.slice G n c) y xs) (hB : w.heap.size ≤ B) (hy : 0 < y) : Fr w G := fun a e => by
  rcases h.2 with ⟨_, h0⟩ | ⟨g, _, _, e', hg, _⟩
  · omega
  · injection e' with e'
    rw [e] at e'
    injection e' with e'
    rw [e']
    exact Nat.le_trans hB hg
/-- names that are answered -/
def NmR (w : World) (l : List ByteArray) (e : Ending) (w' : World) : Prop := ∃ (A : Option Addr) (c : Nat), e = .returned (.slice A l.length c) ∧ (Txs w' A l ∧ Fr w A) ∧ Below w.heap.size w w'
theorem own_s (w : World) (s : ByteArray) : (w.alloc (.cells #[.string s] 9)).ownsRow w.heap.size 9 1 (.slice (some ⟨w.heap.size, 0, none⟩) 1 1) 1 (strs [s]) :=
  ⟨rfl, .inr ⟨w.heap.size, 1, #[.string s], rfl, Nat.le_refl _, heap_alloc_new w _, Nat.le_refl _, by unfold maxLen; omega, rfl, rfl⟩⟩

set_option maxRecDepth 100000 in
set_option maxHeartbeats 4000000 in
theorem kids_any (w : World) (A B : Option Addr) (c d q m : Nat) (l : List Tg) (nn : Nm) (hq : l.length = q) (hm : nn.length = m) (h : Ths w A l) (hn : Txs w B nn) (hl : q ≤ 100000) (hml : m ≤ 100000) :
    Calls Tryz.prog 53 #[tv A q c, .slice B m d] w (NmR w (kidT (ths l) nn)) := by
  have HB0 := Lib.hid ((Below.refl w.heap.size w).alloc (Nat.le_refl _) (.cells #[.slice A q c] 29))
  have HW := Lib.hid h
  have HNN := Lib.hid hn
  have HQ := Lib.hid hq
  have HMM := Lib.hid hm
  clear h hq hn hm
  go_enter Tryz.func53, Tryz.ntmps53
  go_wp2
  go_loopw [5, 14] (fun sv i wr => ∃ (k gc y : Nat) (G : Option Addr), k ≤ q ∧ y ≤ k ∧ sv = .slice G y gc ∧ i = .int .i64 (k : Int) ∧ Below w.heap.size w wr ∧ (sorted Pat.less (kidL (ths (l.take k)) nn)).length = y ∧ Txs wr G (sorted Pat.less (kidL (ths (l.take k)) nn)) ∧ (G = none → gc = 0) ∧ y ≤ gc ∧ Fr w G) (fun _ i _ => q - (intOf i).toNat)
  case atStart => exact ⟨0, 0, 0, none, Nat.zero_le _, Nat.le_refl _, rfl, rfl, HB0.out, rfl, Pat.txs_nil _ _, fun _ => rfl, Nat.le_refl _, fr_none w⟩
  case round =>
    obtain ⟨k, gc, y, G, hk, hyk, rfl, rfl, hb, hlo, ho, hG, hyg, hfr⟩ := hrel
    have HFR := Lib.hid hfr
    have HB := Lib.hid hb
    have HO := Lib.hid ho
    have HG := Lib.hid hG
    have HLO := Lib.hid hlo
    clear hb ho hG hlo hfr
    by_cases hlt : k < q
    · obtain ⟨b, o, rfl, _, h0, h1, h2⟩ := (HW.out.keep HB.out).at' k (by rw [HQ.out]; exact hlt)
      have HTK := Lib.hid (show ths (l.take (k + 1)) = ths (l.take k) ++ [(l[k]'(by rw [HQ.out]; exact hlt)).2.2] from by
        unfold ths
        rw [List.take_succ_eq_append_getElem (by rw [HQ.out]; exact hlt), List.map_append]
        rfl)
      have HM := Lib.hid (List.getElem_mem (show k < l.length by rw [HQ.out]; exact hlt))
      generalize l[k]'(by rw [HQ.out]; exact hlt) = g at *
      obtain ⟨ga, gx, gn, gd, gs⟩ := g
      have hgs := HW.out.sz _ HM.out
      have hgn := (HW.out.nm _ HM.out).1
      have hgu := (HW.out.nm _ HM.out).2
      simp only at h0 h1 h2 hgs hgn hgu HTK
      obtain ⟨u, hu⟩ : ∃ u, u = gn.length := ⟨_, rfl⟩
      rw [← hu] at h0 hgu
      have HU := Lib.hid hu
      have HGN := Lib.hid (show Bg (wr.alloc (.cells #[.slice ga u gx, .bool gd, .string gs] 93)) wr.heap.size (ga, gx, gn, gd, gs) by rw [hu]; exact bg_new wr (ga, gx, gn, gd, gs) 93)
      have HB1 := Lib.hid (HB.out.alloc HB.out.size (.cells #[.slice ga u gx, .bool gd, .string gs] 93))
      have HO1 := Lib.hid (HO.out.alloc (.cells #[.slice ga u gx, .bool gd, .string gs] 93))
      have HNG := Lib.hid (hgn.keep HB1.out)
      have HNM := Lib.hid (HNN.out.keep HB1.out)
      have HGS := Lib.hid hgs
      clear hu hgs hgn
      obtain ⟨wo, hwo⟩ : ∃ wo, wo = wr := ⟨_, rfl⟩
      subst hwo
      go_upto_region 5 with fail
      generalize wo.alloc (.cells #[.slice ga u gx, .bool gd, .string gs] 93) = w1 at *
      generalize wo.heap.size = p at *
      have hbc : w1.cell? ⟨p, 0, none⟩ = some (.slice ga u gx) := by have := HGN.out.c0; rw [show ((ga, gx, gn, gd, gs) : Tg).2.2.1.length = u from HU.out.symm] at this; exact this
      have skip : ¬ (gn.length = nn.length + 1 ∧ gn.take nn.length = nn) → ∀ w2, Below w.heap.size w w2 → Txs w2 G (sorted Pat.less (kidL (ths (l.take k)) nn)) → (sorted Pat.less (kidL (ths (l.take (k + 1))) nn)).length = y ∧ Txs w2 G (sorted Pat.less (kidL (ths (l.take (k + 1))) nn)) := fun hc w2 _ ht => by
        rw [HTK.out, kidL_no hc]
        exact ⟨HLO.out, ht⟩
      have SKIP := Lib.hid skip
      clear skip
      by_cases hlen : u = m + 1
      · have hne : ((u : Int) == (m : Int) + 1) = true := by rw [hlen]; exact beq_self_eq_true _
        have hne3 : (u : Int) = (m : Int) + 1 := by omega
        have hmc : (m : Int) ≤ (gx : Int) := by omega
        have hm0 : (0 : Int) ≤ (m : Int) := by omega
        have hmu : m ≤ u := by omega
        have HLEN := Lib.hid hlen
        clear hlen
        go_wp2_with fail
        refine (Pat.same_at w1 ga B gx d m m (gn.take m) nn (by rw [List.length_take, ← HU.out]; omega) HMM.out (HNG.out.take m) HNM.out).mono ?_
        rintro e w2 ⟨rfl, n2, hw2⟩
        have HB2 := Lib.hid (show Below w.heap.size w w2 by rw [hw2]; exact Pat.below_drewN HB1.out n2)
        have HO2 := Lib.hid (show Txs w2 G (sorted Pat.less (kidL (ths (l.take k)) nn)) by rw [hw2]; exact HO1.out.drewN n2)
        have HG2 := Lib.hid (show Bg w2 p (ga, gx, gn, gd, gs) by rw [hw2]; exact HGN.out.drewN n2)
        have HN2 := Lib.hid (show Txs w2 ga gn by rw [hw2]; exact HNG.out.drewN n2)
        have hbc2 : w2.cell? ⟨p, 0, none⟩ = some (.slice ga u gx) := by rw [hw2]; exact hbc
        clear hw2 hbc
        by_cases hsame : gn.take m = nn
        · rw [decide_eq_true hsame]
          have HC := Lib.hid (show gn.length = nn.length + 1 ∧ gn.take nn.length = nn by rw [HMM.out]; exact ⟨by rw [← HU.out, HLEN.out], hsame⟩)
          clear hsame
          have HIN := Lib.hid (show sorted Pat.less (kidL (ths (l.take (k + 1))) nn) = ins Pat.less (sorted Pat.less (kidL (ths (l.take k)) nn)) (gn.getD m ByteArray.empty) by
            rw [HTK.out, kidL_yes HC.out, sorted_snoc, HMM.out])
          clear SKIP
          generalize sorted Pat.less (kidL (ths (l.take k)) nn) = o at *
          have hgm : m < gn.length := by rw [← HU.out, HLEN.out]; omega
          obtain ⟨s, hsd⟩ : ∃ s, s = gn[m] := ⟨_, rfl⟩
          have HSD := Lib.hid (show gn.getD m ByteArray.empty = s by rw [hsd, List.getD_eq_getElem?_getD, List.getElem?_eq_getElem hgm, Option.getD_some])
          rw [HSD.out] at HIN
          have HSS := Lib.hid (show s.size ≤ 9223372036854775807 by rw [hsd]; exact HN2.out.size _ (List.getElem_mem hgm))
          have hmu1 : (m : Int) < (u : Int) := by omega
          have HNS := Lib.hid (show ∃ b o, ga = some ⟨b, o, none⟩ ∧ b < w2.heap.size ∧ w2.cell? ⟨b, o + m, none⟩ = some (.string s) by
            obtain ⟨b, o, e1, e2, e3⟩ := HN2.out.at' m hgm
            exact ⟨b, o, e1, e2, by rw [hsd]; exact e3⟩)
          obtain ⟨bs, os, rfl, hbs, hcs⟩ := HNS.out
          clear hsd hgm HNS
          go_wp2
          go_loopw [9] (fun iv wr => ∃ (a n : Nat), a ≤ y ∧ iv = .int .i64 (a : Int) ∧ wr = w2.drewN n ∧ ∀ j (h : j < o.length), j < a → Pat.less o[j] s = true) (fun iv _ => y - (intOf iv).toNat)
          case atStart => exact ⟨0, 0, Nat.zero_le _, rfl, rfl, fun j _ h => absurd h (by omega)⟩
          case round =>
            obtain ⟨a, n, hak, rfl, hw, hr⟩ := hrel
            have HR := Lib.hid hr
            have HOw := Lib.hid (show Txs wr G o by rw [hw]; exact HO2.out.drewN n)
            have HBw := Lib.hid (show Below w.heap.size w wr by rw [hw]; exact Pat.below_drewN HB2.out n)
            have hbw : wr.cell? ⟨p, 0, none⟩ = some (.slice (some ⟨bs, os, none⟩) u gx) := by rw [hw]; exact hbc2
            have hcw : wr.cell? ⟨bs, os + m, none⟩ = some (.string s) := by rw [hw]; exact hcs
            have hpl : p < wr.heap.size := by rw [hw]; exact HG2.out.lt
            have hbl : bs < wr.heap.size := by rw [hw]; exact hbs
            have HWR := Lib.hid hw
            clear hw hr
            by_cases hcont : ∃ h : a < o.length, Pat.less o[a] s = true
            · obtain ⟨hlo, hah⟩ := hcont
              have hlk : a < y := by rw [← HLO.out]; exact hlo
              obtain ⟨b', o', rfl, _, d0⟩ := HOw.out.at' a hlo
              have HRN := Lib.hid (show ∀ j (h : j < o.length), j < a + 1 → Pat.less o[j] s = true from fun j hj hja => by
                rcases Nat.lt_or_ge j a with h | h
                · exact HR.out j hj h
                · obtain rfl : j = a := by omega
                  exact hah)
              generalize o[a] = t at *
              have hls : Op.bytesLess t.toList s.toList = true := hah
              have hi0 : (0 : Int) ≤ (a : Int) := by omega
              have hi1 : (a : Int) < (y : Int) := by omega
              clear hah
              go_wp2_with fail
              go_quiet (fail)
              go_wp2
              exact ⟨⟨a + 1, n + nq, by omega, by go_num, by rw [HWR.out, World.drewN_drewN], HRN.out⟩, by simp [intOf]; omega⟩
            · have hka0 : (0 : Int) ≤ (a : Int) := by omega
              have hak1 : (a : Int) ≤ (y : Int) := by omega
              obtain ⟨A2, hs2, hA2, ht2⟩ := txs_from G y gc a hak hyg HG.out
              obtain ⟨A1, hs1, hA1, ht1⟩ := txs_upto G y gc a hak hyg HG.out
              have hagc : (a : Int) ≤ (gc : Int) := by omega
              have HINS := Lib.hid (ins_at Pat.less o s a (by rw [HLO.out]; exact hak) HR.out (fun h => by
                by_cases hq : Pat.less o[a] s = true
                · exact absurd ⟨h, hq⟩ hcont
                · exact Bool.eq_false_iff.2 hq))
              have hcase : ¬ a < y ∨ ∃ h : a < o.length, Pat.less o[a] s = false := by
                by_cases h : a < o.length
                · refine .inr ⟨h, ?_⟩
                  by_cases hq : Pat.less o[a] s = true
                  · exact absurd ⟨h, hq⟩ hcont
                  · exact Bool.eq_false_iff.2 hq
                · exact .inl (by rw [← HLO.out]; exact h)
              have HA1 := Lib.hid hA1
              have HA2 := Lib.hid hA2
              have HT1 := Lib.hid ht1
              have HT2 := Lib.hid ht2
              clear hcont hA1 hA2 ht1 ht2
              rcases hcase with hlt2 | ⟨hlo, hah⟩
              all_goals (
                first
                | (have hi1 : ¬ (a : Int) < (y : Int) := by omega
                   go_wp2_with fail
                   go_quiet (fail)
                   go_upto_region 10 with fail)
                | (have hlk : a < y := by rw [← HLO.out]; exact hlo
                   obtain ⟨b', o', rfl, _, d0⟩ := HOw.out.at' a hlo
                   generalize o[a] = t at *
                   have hls : Op.bytesLess t.toList s.toList = false := hah
                   have hi1 : (a : Int) < (y : Int) := by omega
                   clear hah
                   go_wp2_with fail
                   go_quiet (fail)
                   go_upto_region 10 with fail)
                have HO3 := Lib.hid (HOw.out.drewN nq)
                have HB3 := Lib.hid (Pat.below_drewN HBw.out nq)
                have hb0 : (wr.drewN nq).cell? ⟨p, 0, none⟩ = some (.slice (some ⟨bs, os, none⟩) u gx) := hbw
                have hb1 : (wr.drewN nq).cell? ⟨bs, os + m, none⟩ = some (.string s) := hcw
                have hpl2 : p < (wr.drewN nq).heap.size := hpl
                have hbl2 : bs < (wr.drewN nq).heap.size := hbl
                clear HOw HBw hbw hcw hpl hbl HWR
                generalize wr.drewN nq = w3 at *
                have hbA := ((Below.refl w3.heap.size w3).alloc (Nat.le_refl _) (.cells #[.string s] 9)).drew
                have hownA := (own_s w3 s).drew
                obtain ⟨R1, r1, w4, hap1, hown1, hgr1⟩ := app_txs (gc - a) (y - a) (by rw [List.length_drop, HLO.out]) hownA (by simp) (HT2.out _ o HLO.out (HO3.out.keep hbA)) HA2.out (by omega) (by omega)
                have hbB : Below w3.heap.size w3 w4 := hbA.grown hgr1 (by simp) (fun k hk => Pat.row_base_lt hownA hk)
                obtain ⟨z, hz⟩ : ∃ z, z = 1 + (y - a) := ⟨_, rfl⟩
                rw [← hz] at hap1 hown1
                have hth4 := (Pat.own_txs (l := s :: o.drop a) hown1
                  (fun x hx => by
                    rcases List.mem_cons.1 hx with rfl | hx
                    · exact HSS.out
                    · exact HO3.out.size x (List.mem_of_mem_drop hx)) (by omega)).1
                have hR1 : R1 = none → r1 = 0 := fun e => by
                  subst e
                  rcases hown1.2 with ⟨_, h0⟩ | ⟨_, _, _, e, _⟩
                  · omega
                  · injection e with e
                    cases e
                have hown0 : (w4.alloc (.cells #[] 9)).ownsRow w4.heap.size 9 1 (.slice (some ⟨w4.heap.size, 0, none⟩) 0 0) 0 [] := World.ownsRow_made w4 #[] 0 (Nat.le_refl _) (by unfold maxLen; omega) rfl
                have hbC := (Below.refl w4.heap.size w4).alloc (Nat.le_refl _) (.cells #[] 9)
                obtain ⟨R2, r2, w5, hap2, hown2, hgr2⟩ := app_txs gc a (by rw [List.length_take, HLO.out]; omega) hown0 (by simp) (HT1.out _ o HLO.out ((HO3.out.keep hbB).keep hbC)) HA1.out (by omega) (by omega)
                rw [Nat.zero_add, List.nil_append] at hown2
                rw [Nat.zero_add] at hap2
                have hbD : Below w4.heap.size w4 w5 := hbC.grown hgr2 (by simp) (fun k hk => Pat.row_base_lt hown0 hk)
                obtain ⟨R3, r3, w6, hap3, hown3, hgr3⟩ := app_txs r1 z (by rw [List.length_cons, List.length_drop, HLO.out]; omega) hown2 hbD.size (hth4.keep hbD) hR1 (by omega) (by omega)
                have hbE : Below w4.heap.size w4 w6 := hbD.grown hgr3 hbD.size (fun k hk => Pat.row_base_lt hown2 hk)
                have haz : a + z = y + 1 := by omega
                rw [haz] at hap3 hown3
                have HB6 := Lib.hid (HB3.out.trans ((hbB.trans (hbE.mono hbB.size)).mono HB3.out.size))
                have hth6 := (Pat.own_txs (l := o.take a ++ s :: o.drop a) (by rw [show strs (o.take a ++ s :: o.drop a) = strs (o.take a) ++ strs (s :: o.drop a) from by simp [strs]]; exact hown3)
                  (fun x hx => by
                    rcases List.mem_append.1 hx with hx | hx
                    · exact HO3.out.size x (List.mem_of_mem_take hx)
                    · exact hth4.size x hx) (by omega)).1
                have HX6 := Lib.hid (show (sorted Pat.less (kidL (ths (l.take (k + 1))) nn)).length = y + 1 ∧ Txs w6 R3 (sorted Pat.less (kidL (ths (l.take (k + 1))) nn)) ∧ (R3 = none → r3 = 0) ∧ y + 1 ≤ r3 ∧ Fr w R3 from by
                  rw [HIN.out]
                  refine ⟨by rw [ins_len, HLO.out], by rw [HINS.out]; exact hth6, fun e => ?_, Pat.row_cap hown3, fr_row hown3 (Nat.le_trans HB3.out.size hbB.size) (Nat.succ_pos y)⟩
                  subst e
                  rcases hown3.2 with ⟨_, h0⟩ | ⟨_, _, _, e, _⟩
                  · omega
                  · injection e with e
                    cases e)
                have hbx0 := (hbB.cell (p := ⟨p, 0, none⟩) hpl2).trans hb0
                have hbx1 := (hbB.cell (p := ⟨bs, os + m, none⟩) hbl2).trans hb1
                have hby0 := (hbA.cell (p := ⟨p, 0, none⟩) hpl2).trans hb0
                have hby1 := (hbA.cell (p := ⟨bs, os + m, none⟩) hbl2).trans hb1
                have HAP1 := Lib.hid hap1
                have HAP2 := Lib.hid hap2
                have HAP3 := Lib.hid hap3
                clear hap1 hap2 hap3 hown0 hown1 hown2 hown3 hgr1 hgr2 hgr3 hbA hbB hbC hbD hbE hth4 hth6 hR1 hownA haz hz
                clear hne hne3
                have hmu2 : (m : Int) < (u : Int) := by have := HLEN.out; omega
                go_wp2_with fail
                go_region_held3 (fun W' => W'.cell? ⟨p, 0, none⟩ = some (.slice (some ⟨bs, os, none⟩) u gx) ∧ W'.cell? ⟨bs, os + m, none⟩ = some (.string s)) (go_keep)
                  (first
                  | ((refine step_append_run (by rfl) (.tmp 58) (.tmp 61) 33 (by rfl) _ _ _ (by rfl) (by rfl) HAP1.out ?_)))
                go_wp2_with (first
                  | (at_builtin; refine Pat.wpList_append_run rfl (.tmp 63) (.tmp 66) 33 rfl _ _ _ rfl rfl HAP2.out ?_)
                  | (at_builtin; refine Pat.wpList_append_run rfl (.tmp 67) (.tmp 68) 33 rfl _ _ _ rfl rfl HAP3.out ?_))
                exact ⟨⟨k + 1, r3, y + 1, R3, by omega, by omega, rfl, by go_num, HB6.out, HX6.out.1, HX6.out.2.1, HX6.out.2.2.1, HX6.out.2.2.2⟩, by simp [intOf]; omega⟩)
        · rw [decide_eq_false hsame]
          have HX := Lib.hid (SKIP.out (fun h => hsame (by rw [HMM.out] at h; exact h.2)) w2 HB2.out HO2.out)
          clear hsame
          go_wp2
          exact ⟨⟨k + 1, gc, y, G, by omega, by omega, rfl, by go_num, HB2.out, HX.out.1, HX.out.2, HG.out, hyg, HFR.out⟩, by simp [intOf]; omega⟩
      · have hne : ((u : Int) == (m : Int) + 1) = false := beq_eq_false_iff_ne.2 (by omega)
        have hne3 : ¬ (u : Int) = (m : Int) + 1 := by omega
        have HX := Lib.hid (SKIP.out (fun h => hlen (by rw [HMM.out] at h; rw [HU.out]; exact h.1)) w1 HB1.out HO1.out)
        clear hlen
        go_wp2
        exact ⟨⟨k + 1, gc, y, G, by omega, by omega, rfl, by go_num, HB1.out, HX.out.1, HX.out.2, HG.out, hyg, HFR.out⟩, by simp [intOf]; omega⟩
    · obtain rfl : k = q := by omega
      have HX := Lib.hid (show NmR w (kidT (ths l) nn) (.returned (.slice G y gc)) wr from by
        have h1 := HO.out
        have h2 := HLO.out
        rw [List.take_of_length_le (by rw [HQ.out]; exact Nat.le_refl _)] at h1 h2
        exact ⟨G, gc, by rw [kidT_eq, h2], ⟨h1, HFR.out⟩, HB.out⟩)
      go_wp2
      go_ret
      exact HX.out
end Tre
end Go.Proofs.YtkhkcfbacnkcnaaGreatDoor
/- A file fewer; some of a file's bytes. -/
namespace Go.Proofs.YtkhkcfbacnkcnaaGreatDoor
open Go.RowKit Go.MapKept
namespace Tre
open Pat (Txs)

theorem goF_found (t : List Th) (n : Nm) : ∀ (f k : Nat), goF t n f k = 0 → ∀ j, k ≤ j → j < k + f → ∃ i, fi t (n.take j) = some i
  | 0, k, _, j, h1, h2 => by omega
  | f + 1, k, h, j, h1, h2 => by
    cases hf : fi t (n.take k) with
    | none => rw [goF_none hf] at h; cases h
    | some i =>
      by_cases hc : k < n.length ∧ isDirAt t i = false
      · rw [goF_file hf hc.1 hc.2] at h; cases h
      · rw [goF_next hf hc] at h
        by_cases hj : j = k
        · subst hj; exact ⟨i, hf⟩
        · exact goF_found t n f (k + 1) h j (by omega) (by omega)
theorem goT_found {t : List Th} {n : Nm} (h0 : n ≠ []) (h : goT t n = 0) : ∃ i, fi t n = some i := by
  have hp := List.length_pos_iff.2 h0
  obtain ⟨i, hi⟩ := goF_found t n n.length 1 h n.length (by omega) (by omega)
  rw [List.take_length] at hi
  exact ⟨i, hi⟩
/-- a path's file is there, and where -/
theorem fileT_ok {t : List Th} {p : ByteArray} (h : (fileT t p).2 = 0) : ∃ (n : Nm) (i : Nat), Pat.spl p = some n ∧ goT t n = 0 ∧ n ≠ [] ∧ fi t n = some i ∧ i < t.length ∧ (fileT t p).1 = (i : Int) := by
  cases hs : Pat.spl p with
  | none => rw [fileT_none hs] at h; cases h
  | some n =>
    by_cases hg : goT t n = 0
    · cases hd : dirT t n with
      | true => rw [fileT_dir hs hg hd] at h; cases h
      | false =>
        have h0 : n ≠ [] := fun e => by subst e; rw [dirT_nil] at hd; cases hd
        obtain ⟨i, hi⟩ := goT_found h0 hg
        refine ⟨n, i, rfl, hg, h0, hi, (fi_some hi).1, ?_⟩
        rw [fileT_yes hs hg hd]
        exact fv_some hi
    · rw [fileT_go hs hg] at h
      exact absurd h hg

/-- a file fewer; the error -/
def unlinkT (t : List Th) (p : ByteArray) : List Th × Int := if (fileT t p).2 ≠ 0 then (t, (fileT t p).2) else (dropT t (fileT t p).1.toNat, 0)

set_option maxRecDepth 100000 in
set_option maxHeartbeats 4000000 in
theorem unlink_any (w : World) (A : Option Addr) (c q : Nat) (l : List Tg) (p : ByteArray) (hq : l.length = q) (h : Ths w A l) (hp : p.size < 4294967281) (hA : A = none → c = 0) (hc : q ≤ c) :
    Calls Tryz.prog 38 #[tv A q c, .string p] w (TrR w A l (unlinkT (ths l) p)) := by
  have hb0 := ((Below.refl w.heap.size w).alloc (Nat.le_refl _) (.cells #[.slice A q c] 29)).alloc (by simp) (.cells #[.slice none 0 0] 29)
  have HB0 := Lib.hid hb0
  have HX0 := Lib.hid (bx_new w (.slice A q c) (.slice none 0 0) 29 29)
  have HT := Lib.hid (h.keep hb0)
  have HW := Lib.hid h
  have HQ := Lib.hid hq
  have HA := Lib.hid hA
  have fin : ∀ (wr : World) (z : Int), Below w.heap.size w wr → unlinkT (ths l) p = (ths l, z) → TrR w A l (unlinkT (ths l) p) (.returned (.tuple #[tv A q c, .int .i64 z])) (wr.setCell ⟨w.heap.size + 1, 0, none⟩ (.slice A q c)) := fun wr z hb e => by
    have hb2 := hb.setCell (p := ⟨w.heap.size + 1, 0, none⟩) (Nat.le_succ _) (.slice A q c)
    rw [e]
    exact ⟨A, c, l, by rw [hq], h.keep hb2, rfl, hA, by omega, hb2, fun _ _ h => h⟩
  have FIN := Lib.hid fin
  clear h hq hA hb0 fin
  go_enter Tryz.func38, Tryz.ntmps38
  go_upto_region 1 with fail
  generalize (w.alloc (.cells #[.slice A q c] 29)).alloc (.cells #[.slice none 0 0] 29) = w1 at *
  obtain ⟨b1, hb1⟩ : ∃ b1, b1 = w.heap.size + 1 := ⟨_, rfl⟩
  rw [← hb1] at HX0 FIN ⊢
  have HB1 := Lib.hid hb1
  have hc0 := HX0.out.c0
  clear hb1
  go_wp2_with fail
  refine (file_any w1 A c q l p HQ.out HT.out hp).mono ?_
  rintro e w2 ⟨rfl, hb2⟩
  have HB2 := Lib.hid (HB0.out.trans (hb2.mono HB0.out.size))
  have HT2 := Lib.hid (HT.out.keep hb2)
  have HX2 := Lib.hid (HX0.out.keep hb2)
  clear hb2 hc0
  have hc0 := HX2.out.c0
  have hc1 := HX2.out.c1
  have hf1 := HX2.out.f1
  by_cases he : (fileT (ths l) p).2 = 0
  · obtain ⟨n, i, -, -, -, -, hil, hfv⟩ := fileT_ok he
    have HUT := Lib.hid (show unlinkT (ths l) p = (dropT (ths l) i, 0) by
      unfold unlinkT
      rw [if_neg (fun h => h he), hfv]
      rfl)
    rw [he, hfv]
    have hiq : i < q := by rw [← HQ.out]; simpa using hil
    clear he hfv hil
    go_wp2_with fail
    refine (without_any w2 A c q i l HQ.out HT2.out HA.out hc hiq).mono ?_
    rintro e w3 ⟨A', c', l', rfl, ht3, hl3, hA3, hc3, hb3, hbA3, hsrc⟩
    have HX3 := Lib.hid (HX2.out.keep hb3)
    have hs1 := World.cell?_setCell_same w3 ⟨b1, 0, none⟩ (.slice A' l'.length c') HX3.out.c1
    have hbz : Below w.heap.size w (w3.setCell ⟨b1, 0, none⟩ (.slice A' l'.length c')) := (HB2.out.trans (hb3.mono HB2.out.size)).setCell (p := ⟨b1, 0, none⟩) (by have := HB1.out; simp only; omega) _
    have HF := Lib.hid (show TrR w A l (unlinkT (ths l) p) (.returned (.tuple #[tv A' l'.length c', .int .i64 0])) (w3.setCell ⟨b1, 0, none⟩ (.slice A' l'.length c')) from by
      rw [HUT.out]
      refine ⟨A', c', l', rfl, ths_put ht3 (fun a e => Nat.lt_of_lt_of_le HX2.out.l1 (hbA3 a e)) (fun g hg => ?_), hl3, hA3, hc3, hbz, fun b hb ha => ⟨fun a e _ => ?_, fun g hg a e hn => ?_⟩⟩
      · obtain ⟨x, hx, e1, e2, e3⟩ := hsrc g hg
        rw [e1, e3]
        exact ((HW.out.keep hbz).nm x hx).1
      · have h1 := hbA3 a e
        have h2 := HB2.out.size
        omega
      · obtain ⟨x, hx, e1, e2, e3⟩ := hsrc g hg
        exact ha.2 x hx a (by rw [← e1]; exact e) (by rw [← e3]; exact hn))
    have hc13 := HX3.out.c1
    have hf13 := HX3.out.f1
    clear ht3 hl3 hA3 hc3 hb3 hbA3 hsrc hbz hc0 hc1 hf1
    generalize l'.length = m at *
    go_wp2
    refine bodyPost_ret (v := .tuple #[tv A' m c', .int .i64 0]) ?_ rfl HF.out
    simp [results, Tryz.results38, go_sem, hs1]
  · have HF := Lib.hid (FIN.out w2 (fileT (ths l) p).2 HB2.out (if_pos he))
    have he1 : ((fileT (ths l) p).2 == 0) = false := by simpa using he
    have hs1 := World.cell?_setCell_same w2 ⟨b1, 0, none⟩ (.slice A q c) hc1
    generalize (fileT (ths l) p).2 = z at *
    go_wp2
    refine bodyPost_ret (v := .tuple #[tv A q c, .int .i64 z]) ?_ rfl HF.out
    simp [results, Tryz.results38, go_sem, hs1]
end Tre
end Go.Proofs.YtkhkcfbacnkcnaaGreatDoor
/- Some of a file's bytes; a directory's names, or the error. -/
namespace Go.Proofs.YtkhkcfbacnkcnaaGreatDoor
open Go.RowKit Go.MapKept
namespace Tre
open Pat (Txs)

/-- the bytes of the thing at i -/
def datT (t : List Th) (i : Nat) : ByteArray := match t[i]? with | some x => x.2.2 | none => ByteArray.empty
theorem dat_at {l : List Tg} {i : Nat} (h : i < l.length) : datT (ths l) i = l[i].2.2.2.2 := by
  unfold datT
  rw [List.getElem?_eq_getElem (by simpa using h)]
  simp
/-- bytes from a place on, so many at most -/
def rdT (s : ByteArray) (a n : Int) : ByteArray := if (s.size : Int) ≤ a then ⟨#[]⟩ else if n < ((s.extract a.toNat s.size).size : Int) then (s.extract a.toNat s.size).extract 0 n.toNat else s.extract a.toNat s.size
def readT (t : List Th) (p : ByteArray) (a n : Int) : ByteArray × Int :=
  if (fileT t p).2 ≠ 0 then (⟨#[]⟩, (fileT t p).2) else if a < 0 ∨ n < 0 then (⟨#[]⟩, 9) else (rdT (datT t (fileT t p).1.toNat) a n, 0)

set_option maxRecDepth 100000 in
set_option maxHeartbeats 4000000 in
theorem read_any (w : World) (A : Option Addr) (c q : Nat) (l : List Tg) (p : ByteArray) (x y : Int) (hq : l.length = q) (h : Ths w A l) (hp : p.size < 4294967281) :
    Calls Tryz.prog 40 #[tv A q c, .string p, .int .i64 x, .int .i64 y] w fun e w' => e = .returned (.tuple #[.string (readT (ths l) p x y).1, .int .i64 (readT (ths l) p x y).2]) ∧ Below w.heap.size w w' := by
  have HB0 := Lib.hid ((Below.refl w.heap.size w).alloc (Nat.le_refl _) (.cells #[.slice A q c] 29))
  have hc0 : (w.alloc (.cells #[.slice A q c] 29)).cell? ⟨w.heap.size, 0, none⟩ = some (.slice A q c) := Crc.alloc_cell w #[.slice A q c] 29 0
  have hl0 : w.heap.size < (w.alloc (.cells #[.slice A q c] 29)).heap.size := by simp
  have HT := Lib.hid (h.keep HB0.out)
  have HQ := Lib.hid hq
  clear h hq
  go_enter Tryz.func40, Tryz.ntmps40
  go_upto_region 1 with fail
  generalize w.alloc (.cells #[.slice A q c] 29) = w1 at *
  go_wp2_with fail
  refine (file_any w1 A c q l p HQ.out HT.out hp).mono ?_
  rintro e w2 ⟨rfl, hb2⟩
  have HB2 := Lib.hid (HB0.out.trans (hb2.mono HB0.out.size))
  have HT2 := Lib.hid (HT.out.keep hb2)
  have hc2 := (hb2.cell (p := ⟨w.heap.size, 0, none⟩) hl0).trans hc0
  clear hb2 hc0 hl0
  by_cases he : (fileT (ths l) p).2 = 0
  · obtain ⟨n, i, -, -, -, -, hil, hfv⟩ := fileT_ok he
    have HRT := Lib.hid (show readT (ths l) p x y = if x < 0 ∨ y < 0 then (⟨#[]⟩, 9) else (rdT (datT (ths l) i) x y, 0) by
      unfold readT
      rw [if_neg (fun h => h he), hfv]
      rfl)
    rw [he, hfv]
    have hil2 : i < l.length := by simpa using hil
    have hiq : i < q := by rw [← HQ.out]; exact hil2
    have hi0 : (0 : Int) ≤ (i : Int) := by omega
    have hi1 : (i : Int) < (q : Int) := by omega
    obtain ⟨b, o, rfl, _, h0, h1, h2⟩ := HT2.out.at' i hil2
    have hsz := HT2.out.sz _ (List.getElem_mem hil2)
    rw [dat_at hil2] at HRT
    generalize l[i] = g at *
    obtain ⟨ga, gx, gn, gd, s⟩ := g
    simp only at h2 hsz HRT
    clear he hfv hil hil2 h0 h1
    by_cases hx : x < 0
    · have HV := Lib.hid (HRT.out.trans (if_pos (.inl hx)))
      go_wp2
      refine bodyPost_ret (v := .tuple #[.string ⟨#[]⟩, .int .i64 9]) ?_ rfl ⟨by rw [HV.out], HB2.out⟩
      simp [results, Tryz.results40, go_sem]
    · by_cases hy : y < 0
      · have HV := Lib.hid (HRT.out.trans (if_pos (.inr hy)))
        go_wp2
        refine bodyPost_ret (v := .tuple #[.string ⟨#[]⟩, .int .i64 9]) ?_ rfl ⟨by rw [HV.out], HB2.out⟩
        simp [results, Tryz.results40, go_sem]
      · have HRD := Lib.hid (HRT.out.trans (if_neg (by omega)))
        by_cases hxs : (s.size : Int) ≤ x
        · have HV := Lib.hid (show readT (ths l) p x y = (⟨#[]⟩, 0) by rw [HRD.out]; unfold rdT; rw [if_pos hxs])
          go_wp2
          refine bodyPost_ret (v := .tuple #[.string ⟨#[]⟩, .int .i64 0]) ?_ rfl ⟨by rw [HV.out], HB2.out⟩
          simp [results, Tryz.results40, go_sem]
        · have hx0 : (0 : Int) ≤ x := by omega
          have hx1 : x ≤ (s.size : Int) := by omega
          have hy0 : (0 : Int) ≤ y := by omega
          obtain ⟨r, hr⟩ : ∃ r, r = s.extract x.toNat s.size := ⟨_, rfl⟩
          have HRD2 := Lib.hid (show readT (ths l) p x y = (if y < (r.size : Int) then r.extract 0 y.toNat else r, 0) by rw [HRD.out]; unfold rdT; rw [if_neg hxs, hr])
          by_cases hyr : y < (r.size : Int)
          · have HV := Lib.hid (show readT (ths l) p x y = (r.extract 0 y.toNat, 0) by rw [HRD2.out, if_pos hyr])
            have hyr2 : y ≤ (r.size : Int) := by omega
            go_upto_region 10 with fail
            rw [← hr]
            clear hr
            go_wp2
            refine bodyPost_ret (v := .tuple #[.string (r.extract 0 y.toNat), .int .i64 0]) ?_ rfl ⟨by rw [HV.out], HB2.out⟩
            simp [results, Tryz.results40, go_sem]
          · have HV := Lib.hid (show readT (ths l) p x y = (r, 0) by rw [HRD2.out, if_neg hyr])
            go_upto_region 10 with fail
            rw [← hr]
            clear hr
            go_wp2
            refine bodyPost_ret (v := .tuple #[.string r, .int .i64 0]) ?_ rfl ⟨by rw [HV.out], HB2.out⟩
            simp [results, Tryz.results40, go_sem]
  · have HV := Lib.hid (show readT (ths l) p x y = (⟨#[]⟩, (fileT (ths l) p).2) from if_pos he)
    have he1 : ((fileT (ths l) p).2 == 0) = false := by simpa using he
    generalize (fileT (ths l) p).2 = z at *
    go_wp2
    refine bodyPost_ret (v := .tuple #[.string ⟨#[]⟩, .int .i64 z]) ?_ rfl ⟨by rw [HV.out], HB2.out⟩
    simp [results, Tryz.results40, go_sem]

/-- a directory's names, or the error -/
def listT (t : List Th) (p : ByteArray) : List ByteArray × Int :=
  match Pat.spl p with
  | none => ([], 3)
  | some n => if goT t n ≠ 0 then ([], goT t n) else if dirT t n = false then ([], 6) else (kidT t n, 0)
/-- names that are answered, with an error -/
def NeR (w : World) (r : List ByteArray × Int) (e : Ending) (w' : World) : Prop := ∃ (A : Option Addr) (c : Nat), e = .returned (.tuple #[.slice A r.1.length c, .int .i64 r.2]) ∧ (Txs w' A r.1 ∧ Fr w A) ∧ Below w.heap.size w w'

set_option maxRecDepth 100000 in
set_option maxHeartbeats 4000000 in
theorem list_any (w : World) (A : Option Addr) (c q : Nat) (l : List Tg) (p : ByteArray) (hq : l.length = q) (h : Ths w A l) (hp : p.size < 4294967281) (hl : q ≤ 100000) :
    Calls Tryz.prog 41 #[tv A q c, .string p] w (NeR w (listT (ths l) p)) := by
  have HB0 := Lib.hid ((Below.refl w.heap.size w).alloc (Nat.le_refl _) (.cells #[.slice A q c] 29))
  have hc0 : (w.alloc (.cells #[.slice A q c] 29)).cell? ⟨w.heap.size, 0, none⟩ = some (.slice A q c) := Crc.alloc_cell w #[.slice A q c] 29 0
  have hl0 : w.heap.size < (w.alloc (.cells #[.slice A q c] 29)).heap.size := by simp
  have HT := Lib.hid (h.keep HB0.out)
  have HQ := Lib.hid hq
  have none_ : ∀ (w' : World) (z : Int), Below w.heap.size w w' → listT (ths l) p = ([], z) → NeR w (listT (ths l) p) (.returned (.tuple #[.slice none 0 0, .int .i64 z])) w' := fun w' z hb e => by
    rw [e]
    exact ⟨none, 0, rfl, ⟨Pat.txs_nil _ _, fr_none w⟩, hb⟩
  have NO := Lib.hid none_
  clear h hq none_
  go_enter Tryz.func41, Tryz.ntmps41
  go_upto_region 1 with fail
  generalize w.alloc (.cells #[.slice A q c] 29) = w1 at *
  go_wp2_with fail
  refine (Pat.refSplit_any w1 p hp).mono ?_
  rintro e w2 ⟨hb2, hs⟩
  have HB2 := Lib.hid (HB0.out.trans (hb2.mono HB0.out.size))
  have HT2 := Lib.hid (HT.out.keep hb2)
  have hc2 := (hb2.cell (p := ⟨w.heap.size, 0, none⟩) hl0).trans hc0
  have hl2 := Nat.lt_of_lt_of_le hl0 hb2.size
  clear hb2 hc0 hl0
  rcases hs with ⟨n, B, d, hsp, rfl, hn, hd, _⟩ | ⟨hsp, rfl⟩
  · have hn64 := (Pat.pth_spl hsp).1.1
    have HLT := Lib.hid (show listT (ths l) p = if goT (ths l) n ≠ 0 then ([], goT (ths l) n) else if dirT (ths l) n = false then ([], 6) else (kidT (ths l) n, 0) by unfold listT; rw [hsp])
    have HN2 := Lib.hid hn
    clear hsp hn
    go_wp2_with fail
    refine (go_any w2 A B c d l n q n.length HQ.out rfl HT2.out HN2.out hd (by omega)).mono ?_
    rintro e w3 ⟨rfl, hb3⟩
    have HB3 := Lib.hid (HB2.out.trans (hb3.mono HB2.out.size))
    have HT3 := Lib.hid (HT2.out.keep hb3)
    have HN3 := Lib.hid (HN2.out.keep hb3)
    have hc3 := (hb3.cell (p := ⟨w.heap.size, 0, none⟩) hl2).trans hc2
    have hl3 := Nat.lt_of_lt_of_le hl2 hb3.size
    clear hb3 hc2 hl2
    by_cases hg : goT (ths l) n = 0
    · rw [hg]
      have HG := Lib.hid (HLT.out.trans (if_neg (fun h => h hg)))
      clear hg
      go_wp2_with fail
      refine (dir_any w3 A B c d l n q n.length HQ.out rfl HT3.out HN3.out).mono ?_
      rintro e w4 ⟨rfl, hb4⟩
      have HB4 := Lib.hid (HB3.out.trans (hb4.mono HB3.out.size))
      have HT4 := Lib.hid (HT3.out.keep hb4)
      have HN4 := Lib.hid (HN3.out.keep hb4)
      have hc4 := (hb4.cell (p := ⟨w.heap.size, 0, none⟩) hl3).trans hc3
      clear hb4 hc3 hl3
      cases hdr : dirT (ths l) n with
      | false =>
        have HF := Lib.hid (NO.out w4 6 HB4.out (HG.out.trans (if_pos hdr)))
        clear hdr
        go_wp2
        refine bodyPost_ret (v := .tuple #[.slice none 0 0, .int .i64 6]) ?_ rfl HF.out
        simp [results, Tryz.results41, go_sem]
      | true =>
        have HV := Lib.hid (HG.out.trans (if_neg (by rw [hdr]; decide)))
        clear hdr
        go_wp2_with fail
        refine (kids_any w4 A B c d q n.length l n HQ.out rfl HT4.out HN4.out hl (by omega)).mono ?_
        rintro e w5 ⟨G, gc, rfl, ht5, hb5⟩
        have HF := Lib.hid (show NeR w (listT (ths l) p) (.returned (.tuple #[.slice G (kidT (ths l) n).length gc, .int .i64 0])) w5 from by
          rw [HV.out]
          exact ⟨G, gc, rfl, ⟨ht5.1, ht5.2.back HB4.out.size⟩, HB4.out.trans (hb5.mono HB4.out.size)⟩)
        clear ht5 hb5
        generalize (kidT (ths l) n).length = m at *
        go_wp2
        refine bodyPost_ret (v := .tuple #[.slice G m gc, .int .i64 0]) ?_ rfl HF.out
        simp [results, Tryz.results41, go_sem]
    · have HF := Lib.hid (NO.out w3 (goT (ths l) n) HB3.out (HLT.out.trans (if_pos hg)))
      have hg1 : (goT (ths l) n == 0) = false := by simpa using hg
      clear HLT
      generalize goT (ths l) n = z at *
      go_wp2
      refine bodyPost_ret (v := .tuple #[.slice none 0 0, .int .i64 z]) ?_ rfl HF.out
      simp [results, Tryz.results41, go_sem]
  · have HF := Lib.hid (NO.out w2 3 HB2.out (by unfold listT; rw [hsp]))
    clear hsp
    go_wp2
    refine bodyPost_ret (v := .tuple #[.slice none 0 0, .int .i64 3]) ?_ rfl HF.out
    simp [results, Tryz.results41, go_sem]
end Tre
end Go.Proofs.YtkhkcfbacnkcnaaGreatDoor
