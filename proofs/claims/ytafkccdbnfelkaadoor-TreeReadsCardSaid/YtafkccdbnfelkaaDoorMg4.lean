/- Texts laid together: TrkDrop, TrkRm, TrkRmdir, TrkWf, CrcSums, TrkLives, TrkReadsLaw, CrcArgs, PatCard. -/
import Derived.Test.YtafkccdbnfelkaaDoorMg3
import Derived.LaidEqlPtr
import Derived.Test.YtafkccdbnfelkaaDoorMg1
import Derived.Test.YtafkccdbnfelkaaDoorMg2
import Derived.Deep.Slices
import Derived.OpenShut
import Derived.ChangeOld
import Derived.Test.YtafkccdbnfelkaaDoorTie
import Derived.Test.YtafkccdbnfelkaaDoorCards
import Derived.ProofKit
import Derived.Lay
import Derived.LaidMore
import Derived.LaidOnce
import Derived.Stop.Joined
import Derived.ChangeMaps5
/- The program's tree, a thing fewer: drop, Unlink, Rmdir. -/
namespace Go.Proofs.YtafkccdbnfelkaaDoor
open Go.RowKit Go.MapKept
namespace Trk
open Tre (Nm Th fi isDirAt dirT goT goF setT dropT fileT addT zt datT unlinkT rmdirT kidT kidL)
open Pat (Txs)

theorem wf_take {t : List Th} (hW : Wf t) {n : Nm} : ∀ (f k : Nat) (v : Bool × ByteArray), n.length - k = f → k ≤ n.length → T t (n.take k) = some v → ∀ j, j < k → ∃ s, T t (n.take j) = some (true, s)
  | f, 0, v, _, _, _, j, hj => absurd hj (Nat.not_lt_zero j)
  | f, k + 1, v, hf, hk, hv, j, hj => by
    have e : n.take (k + 1) = n.take k ++ [n[k]] := List.take_succ_eq_append_getElem (by omega)
    rw [e] at hv
    obtain ⟨s, hs⟩ := hW.up _ _ _ hv
    rcases Nat.lt_or_ge j k with h | h
    · exact wf_take hW (f + 1) k _ (by omega) (by omega) hs j h
    · obtain rfl : j = k := by omega
      exact ⟨s, hs⟩
theorem rest_wf {t : List Th} {n : Nm} (h : ∀ j, j < n.length → ∃ s, T t (n.take j) = some (true, s)) {v : Bool × ByteArray} (hv : T t n = some v) : ∀ (f k : Nat), n.length - k = f → k ≤ n.length → rest t n k true = 0
  | 0, k, hf, hk => by
    obtain rfl : k = n.length := by omega
    exact rest_end
  | f + 1, k, hf, hk => by
    rcases Nat.lt_or_ge (k + 1) n.length with hlt | hge
    · obtain ⟨s, hs⟩ := h (k + 1) hlt
      rw [rest_some (by omega) hs]
      exact rest_wf h hv f (k + 1) (by omega) (by omega)
    · have e : n.take (k + 1) = n := List.take_of_length_le hge
      rw [rest_some (by omega) (e.symm ▸ hv), show k + 1 = n.length by omega]
      exact rest_end
theorem Wf.go {t : List Th} (hW : Wf t) {n : Nm} {v : Bool × ByteArray} (hv : T t n = some v) : goT t n = 0 := by
  rw [goT_rest]
  exact rest_wf (fun j hj => wf_take hW 0 n.length v (by omega) (Nat.le_refl _) (by rw [List.take_length]; exact hv) j hj) hv n.length 0 (by omega) (by omega)
theorem Mem.drop {w w' : World} {N : Nat} {t : List Th} {L : Nm → Nd} (h : Mem w N t L) (hW : Wf t) {p : Nm} {nm : ByteArray} {s : ByteArray} {v : Bool × ByteArray} {i g : Nat} {D : DataW Unit} (hp : T t p = some (true, s)) (hn : T t (p ++ [nm]) = some v) (hi : fi t (p ++ [nm]) = some i)
    (hg : (L p).m = some g) (hA : Ask w' g N (fun x => if x = nm then none else kb t L p x) D) (hgr : w.grownBy w' (some g)) : Mem w' N (dropT t i) L ∧ Chg (Fp t L) w w' ∧ ∀ i', Fp (dropT t i) L i' → Fp t L i' := by
  have hT : ∀ q, T (dropT t i) q = if q = p ++ [nm] then none else T t q := T_drop hW.once (by simp) hi
  have hgp : g ∈ own (L p) := own_mem.2 (.inr (.inl hg))
  have hgF : Fp t L g := ⟨p, _, hp, hgp⟩
  refine ⟨?_, Chg.grown hgr hgF, ?_⟩
  · refine h.step (fun q => q = p ∨ q = p ++ [nm]) (Nat.le_refl N) (fun q hq => ?_) (fun q hq => rfl) (fun q u hu hq i' hi' => ?_) (fun q x u hu hq => ?_) (fun q d' s' hq hv => ?_) (fun q u hq hv => ?_) (fun q r u1 u2 hq hv hu hne' i' hi' => ?_)
    · rw [hT, if_neg (fun e => hq (.inr e))]
    · exact hgr.block i' (h.lt ⟨q, u, hu, hi'⟩) (fun e => by
        injection e with e
        exact h.apart q p u _ hu hp (fun e' => hq (.inl e')) i' hi' (e ▸ hgp))
    · unfold kb
      rw [hT, if_neg (app_ne (fun e => hq (.inl e)))]
    · rcases hq with rfl | rfl
      · rw [hT, if_neg (fun e => app_self e.symm), hp] at hv
        injection hv with hv
        injection hv with h1 h2
        subst h1 h2
        have hN := h.nod _ _ _ hp
        have ho := h.one _ _ hp
        have hbg : (L q).b ≠ g := fun e => by
          unfold own at ho
          rw [hg] at ho
          simp [e] at ho
        refine ⟨?_, ?_, ?_⟩
        · obtain ⟨ty, hb⟩ := hN.box
          exact ⟨ty, (hgr.block _ hN.blt (fun e => hbg (by injection e))).trans hb⟩
        · refine hN.row.kept hgr ?_
          cases hA' : (L q).A with
          | none => exact .inl rfl
          | some a =>
            refine .inr (fun e => ?_)
            have : a.block = g := by simpa [Value.ownBlock] using e
            unfold own at ho
            rw [hg, hA'] at ho
            simp [this] at ho
        · rw [hg]
          have hf : (fun x => if x = nm then none else kb t L q x) = kb (dropT t i) L q := by
            funext x
            unfold kb
            rw [hT]
            by_cases e : x = nm
            · subst e
              rw [if_pos rfl, if_pos rfl]
              rfl
            · rw [if_neg e, if_neg (fun e' => e (app_inj e'))]
          rw [← hf]
          exact ⟨D, hA⟩
      · rw [hT, if_pos rfl] at hv
        cases hv
    · rcases hq with rfl | rfl
      · exact h.one _ _ hp
      · rw [hT, if_pos rfl] at hv
        cases hv
    · rcases hq with rfl | rfl
      · rw [hT] at hu
        by_cases e : r = q ++ [nm]
        · rw [if_pos e] at hu
          cases hu
        · rw [if_neg e] at hu
          exact h.apart q r _ u2 hp hu (fun e => hne' e.symm) i' hi'
      · rw [hT, if_pos rfl] at hv
        cases hv
  · rintro i' ⟨q, u, hu, hi'⟩
    rw [hT] at hu
    by_cases e : q = p ++ [nm]
    · rw [if_pos e] at hu
      cases hu
    · rw [if_neg e] at hu
      exact ⟨q, u, hu, hi'⟩

set_option maxRecDepth 100000 in
set_option maxHeartbeats 1000000 in
theorem drop_any (w : World) (N b0 i : Nat) (t : List Th) (L : Nm → Nd) (p : ByteArray) (m : Nm) (s : ByteArray) (v : Bool × ByteArray) (hM : Mem w N t L) (hb : (L []).b = b0) (hW : Wf t) (hp : p.size < 4294967281)
    (hs : Pat.spl p = some (m ++ [s])) (hv : T t (m ++ [s]) = some v) (hi : fi t (m ++ [s]) = some i) :
    Calls Tryd.prog 19 #[.pointer (some ⟨b0, 0, none⟩), .string p] w fun e w' => e = .returned (.tuple #[]) ∧ TrkR w N t L (dropT t i) w' := by
  have HM := Lib.hid hM
  have HS := Lib.hid hs
  have HV := Lib.hid hv
  have HI := Lib.hid hi
  clear hM hs hv hi
  go_enter Tryd.func19, Tryd.ntmps19
  go_wp2_with fail
  refine (Pat.split_any w p hp).mono ?_
  rintro e w1 ⟨hb1, h1⟩
  have HB1 := Lib.hid hb1
  have HM1 := Lib.hid (HM.out.keep hb1)
  clear hb1
  rcases h1 with ⟨l, A, c, hs, rfl, hc, ht⟩ | ⟨hs, rfl⟩
  · obtain rfl : m ++ [s] = l := by rw [HS.out] at hs; injection hs
    have HIN := Lib.hid (spl_is hs)
    have HIm := Lib.hid (show Pat.IsNames m from ⟨by have := HIN.out.1; simp at this; omega, fun z hz => HIN.out.2 z (by simp [hz])⟩)
    have hss := right_len (HIN.out.2 s (by simp))
    have HT := Lib.hid ht
    obtain ⟨k, hk⟩ : ∃ k, k = m.length := ⟨_, rfl⟩
    obtain ⟨n, hn⟩ : ∃ n, n = (m ++ [s]).length := ⟨_, rfl⟩
    rw [← hn]
    have hml : k ≤ 1000000 := by have := HIm.out.1; omega
    have HPAR := Lib.hid (Pat.parent_yes w1 A c n k m s HT.out hk.symm (by rw [hn, hk]; simp) hml)
    have HKL := Lib.hid hk
    clear hs hc ht hn hk
    go_wp2_with fail
    refine HPAR.out.mono ?_
    rintro e w2 ⟨g, rfl, _, ho, hb2⟩
    have HB2 := Lib.hid (HB1.out.trans (hb2.mono HB1.out.size))
    have HM2 := Lib.hid (HM.out.keep HB2.out)
    have HO := Lib.hid (Pat.Own.txs ho (fun z hz => by have := (HIm.out.2 z hz).1.2; rw [Crc.tx_len] at this; omega) (by have := HKL.out; omega))
    have HFOL := Lib.hid (follow_any w2 N b0 k k t L (some ⟨g, 0, none⟩) m HM2.out hb HO.out HIm.out HKL.out.symm)
    clear ho hb2 HT HPAR
    go_wp2_with fail
    refine HFOL.out.mono ?_
    rintro e w3 ⟨rfl, rfl⟩
    obtain ⟨s', hup⟩ := hW.up _ _ _ HV.out
    have HUP := Lib.hid hup
    rw [gv_yes (hW.go hup), hW.go hup]
    unfold pv
    have HN := Lib.hid (HM2.out.nod _ _ _ hup)
    have hc2 := HN.out.c2
    have hkd := HN.out.map
    cases hm : (L m).m with
    | none =>
      rw [hm] at hkd
      have := hkd s
      unfold kb at this
      rw [HV.out] at this
      cases this
    | some q =>
      rw [hm] at hkd hc2
      obtain ⟨D, hD⟩ := hkd
      obtain ⟨w4, D', hdel, hA, hgr⟩ := hD.strike s hss 0
      have HR := Lib.hid (show TrkR w N t L (dropT t i) w4 from by
        obtain ⟨q1, q2, q3⟩ := HM2.out.drop hW HUP.out HV.out HI.out hm hA hgr
        exact TrkR.after HB2.out ⟨q2, L, q1.mono (Nat.le_succ N), rfl, fun i' hi' => .inl (q3 i' hi')⟩)
      clear hup hA hgr hD
      generalize L m = z at *
      go_wp2
      go_end0
      exact ⟨rfl, HR.out⟩
  · rw [HS.out] at hs
    cases hs
end Trk
end Go.Proofs.YtafkccdbnfelkaaDoor
/- The program's Unlink, Rmdir. -/
namespace Go.Proofs.YtafkccdbnfelkaaDoor
open Go.RowKit Go.MapKept
namespace Trk
open Tre (Nm Th fi isDirAt dirT goT goF setT dropT fileT addT zt datT unlinkT rmdirT kidT kidL fv)
open Pat (Txs)

theorem names_last {n : Nm} (h : n ≠ []) : ∃ m s, n = m ++ [s] := by
  rcases List.eq_nil_or_concat n with h' | ⟨m, s, h'⟩
  · exact absurd h' h
  · exact ⟨m, s, by rw [h', List.concat_eq_append]⟩

section
variable (w : World) (N b0 : Nat) (t : List Th) (L : Nm → Nd) (p : ByteArray) (hM : Mem w N t L) (hb : (L []).b = b0) (hW : Wf t) (hp : p.size < 4294967281)
include hM hb hW hp
end

/-- a directory's names -/
theorem kidL_mem {t : List Th} (ht : Once t) {n : Nm} {x : ByteArray} : x ∈ kidL t n ↔ (T t (n ++ [x])).isSome = true := by
  unfold Tre.kidL
  rw [List.mem_map]
  constructor
  · rintro ⟨y, hy, rfl⟩
    obtain ⟨hy, hc⟩ := List.mem_filter.1 hy
    obtain ⟨h1, h2⟩ := of_decide_eq_true hc
    have e : n ++ [y.1.getD n.length ByteArray.empty] = y.1 := by
      rw [← h2]
      have hlt : n.length < y.1.length := by omega
      rw [List.getD_eq_getElem?_getD, List.length_take, Nat.min_eq_left (by omega), List.getElem?_eq_getElem hlt, Option.getD_some, ← List.take_succ_eq_append_getElem hlt, List.take_of_length_le (by omega)]
    rw [e, mem_T ht hy (fun h0 => by rw [h0] at h1; simp at h1)]
    rfl
  · intro h
    obtain ⟨v, hv⟩ := Option.isSome_iff_exists.1 h
    have hm := T_mem (by simp) hv
    refine ⟨_, List.mem_filter.2 ⟨hm, decide_eq_true (by simp)⟩, by simp⟩
theorem kidL_once {t : List Th} (ht : Once t) (n : Nm) : (kidL t n).Nodup := by
  unfold Tre.kidL
  refine List.pairwise_map.2 ?_
  have h1 : (t.filter fun x => decide (x.1.length = n.length + 1 ∧ x.1.take n.length = n)).Pairwise (fun x y => x.1 ≠ y.1) := (List.pairwise_map.1 ht).sublist List.filter_sublist
  refine h1.imp_of_mem fun {a b} ha hb hne e => hne ?_
  have key : ∀ y ∈ (t.filter fun x => decide (x.1.length = n.length + 1 ∧ x.1.take n.length = n)), y.1 = n ++ [y.1.getD n.length ByteArray.empty] := fun y hy => by
    obtain ⟨h1, h2⟩ := of_decide_eq_true (List.mem_filter.1 hy).2
    have hlt : n.length < y.1.length := by omega
    conv => rhs; rw [← h2]
    rw [List.getD_eq_getElem?_getD, List.length_take, Nat.min_eq_left (by omega), List.getElem?_eq_getElem hlt, Option.getD_some, ← List.take_succ_eq_append_getElem hlt, List.take_of_length_le (by omega)]
  rw [key a ha, key b hb, e]
theorem kid_size {t : List Th} (hW : Wf t) {n : Nm} {x : ByteArray} (h : (T t (n ++ [x])).isSome = true) : x.size ≤ maxLen := by
  obtain ⟨v, hv⟩ := Option.isSome_iff_exists.1 h
  have hm := T_mem (by simp) hv
  exact right_len ((hW.nm _ hm).2.2 x (by simp))
theorem kidT_len (t : List Th) (n : Nm) : (kidT t n).length = (kidL t n).length := by
  rw [Tre.kidT_eq]
  exact Tre.sorted_len _ _
/-- how many names a directory's map has -/
theorem Nod.kids {w : World} {N : Nat} {t : List Th} {L : Nm → Nd} {n : Nm} {d : Bool} {s : ByteArray} {x : Nd} (hW : Wf t) (h : Nod w N x (kb t L n) d s) (ty : TypeId) :
    (Builtin.len_ #[33] ty #[.map x.m]).run Tryd.prog w = .ok (.int .i64 ((kidL t n).length : Int)) w := by
  have hk := h.map
  cases hm : x.m with
  | none =>
    rw [hm] at hk
    have h0 : kidL t n = [] := by
      cases hl : kidL t n with
      | nil => rfl
      | cons y r =>
        have := (kidL_mem hW.once).1 (show y ∈ kidL t n by rw [hl]; simp)
        have hy := hk y
        unfold kb at hy
        cases hT : T t (n ++ [y]) with
        | none => rw [hT] at this; cases this
        | some v => rw [hT] at hy; cases hy
    rw [h0]
    exact Maps.len_nil Tryd.underlying33 ty
  | some g =>
    rw [hm] at hk
    obtain ⟨D, hD⟩ := hk
    obtain ⟨_, hsz⟩ := hD.keys (kidL_once hW.once n) (fun y => by rw [kidL_mem hW.once]; unfold kb; cases T t (n ++ [y]) <;> simp) (fun y hy => kid_size hW ((kidL_mem hW.once).1 hy))
    rw [← hsz]
    exact hD.own.len Tryd.underlying33 ty
end Trk
end Go.Proofs.YtafkccdbnfelkaaDoor
/- The program's Rmdir. -/
namespace Go.Proofs.YtafkccdbnfelkaaDoor
open Go.RowKit Go.MapKept
namespace Trk
open Tre (Nm Th fi isDirAt dirT goT goF setT dropT fileT addT zt datT unlinkT rmdirT kidT kidL fv)
open Pat (Txs)

theorem rmdirT_no {t : List Th} {p : ByteArray} (h : dirE t p ≠ 0) : rmdirT t p = (t, dirE t p) := by
  unfold dirE at h
  unfold dirE Tre.rmdirT
  cases hs : Pat.spl p with
  | none => rfl
  | some n =>
    rw [hs] at h
    simp only at h ⊢
    by_cases hg : goT t n ≠ 0
    · rw [if_pos hg, if_pos hg]
    · rw [if_neg hg] at h ⊢
      rw [if_neg hg]
      by_cases hd : dirT t n = false
      · rw [if_pos hd, if_pos hd]
      · rw [if_neg hd] at h
        exact absurd rfl h
theorem rmdirT_yes {t : List Th} {p : ByteArray} {n : Nm} {s : ByteArray} (h : IsDir t p n s) : rmdirT t p = if n = [] then (t, 1) else if 0 < (kidT t n).length then (t, 8) else (dropT t (fv t n).toNat, 0) := by
  unfold Tre.rmdirT
  rw [h.spl]
  simp only [h.go, h.dir]
  simp

theorem thing_size : (Tryd.prog.info? 35).map (fun i => i.size) = some 3 := by kernel_rfl
theorem eql_same (w : World) (b : Nat) : (binOp .eql 39 (.pointer (some ⟨b, 0, none⟩)) (.pointer (some ⟨b, 0, none⟩))).run Tryd.prog w = .ok (.bool true) w := by
  obtain ⟨j, hj, _⟩ := Option.map_eq_some_iff.1 thing_size
  exact run_eql_ptr_same w _ Tryd.underlying39 hj
theorem eql_other {w : World} {N N' : Nat} {x y : Nd} {f g : ByteArray → Option Nat} {d d' : Bool} {s s' : ByteArray} (h : Nod w N x f d s) (h' : Nod w N' y g d' s') (hne : x.b ≠ y.b) : (binOp .eql 39 (.pointer (some ⟨x.b, 0, none⟩)) (.pointer (some ⟨y.b, 0, none⟩))).run Tryd.prog w = .ok (.bool false) w := by
  obtain ⟨j, hj, hs⟩ := Option.map_eq_some_iff.1 thing_size
  obtain ⟨t1, h1⟩ := h.box
  obtain ⟨t2, h2⟩ := h'.box
  exact run_eql_ptr_other w Tryd.underlying39 hj (by rw [hs]; decide) (fun e => hne (by injection e)) h1 h2

set_option maxRecDepth 100000 in
set_option maxHeartbeats 1000000 in
theorem rmdir_any (w : World) (N b0 : Nat) (t : List Th) (L : Nm → Nd) (p : ByteArray) (hM : Mem w N t L) (hb : (L []).b = b0) (hW : Wf t) (hp : p.size < 4294967281) :
    Calls Tryd.prog 11 #[.pointer (some ⟨b0, 0, none⟩), .string p] w fun e w' => e = .returned (.int .i64 (rmdirT t p).2) ∧ TrkR w N t L (rmdirT t p).1 w' := by
  have HM := Lib.hid hM
  clear hM
  go_enter Tryd.func11, Tryd.ntmps11
  go_wp2_with fail
  refine (dirAt_any w N b0 t L p HM.out hb hp).mono ?_
  rintro e w1 ⟨hf, hb1⟩
  have HB1 := Lib.hid hb1
  have HM1 := Lib.hid (HM.out.keep hb1)
  clear hb1
  rcases hf with ⟨he, rfl⟩ | ⟨n, s, hf, rfl⟩
  · have HZ := Lib.hid (rmdirT_no he)
    generalize hg : dirE t p = g at *
    clear hg
    go_wp2
    refine bodyPost_ret (v := .int .i64 g) ?_ rfl ⟨by rw [HZ.out], by rw [HZ.out]; exact TrkR.same HM.out HB1.out⟩
    simp [results, Tryd.results11, go_sem]
  · have HF := Lib.hid hf
    have HZ1 := Lib.hid (rmdirT_yes hf)
    have HN := Lib.hid (HM1.out.nod _ _ _ hf.at')
    have hc2 := HN.out.c2
    clear hf
    by_cases h0 : n = []
    · have HZ := Lib.hid (HZ1.out.trans (if_pos h0))
      have heq : (binOp .eql 39 (.pointer (some ⟨(L n).b, 0, none⟩)) (.pointer (some ⟨b0, 0, none⟩))).run Tryd.prog w1 = .ok (.bool true) w1 := by
        rw [show (L n).b = b0 by rw [h0, hb]]
        exact eql_same w1 b0
      clear h0
      generalize hy : L n = y at *
      go_wp2
      refine bodyPost_ret (v := .int .i64 1) ?_ rfl ⟨by rw [HZ.out], by rw [HZ.out]; exact TrkR.same HM.out HB1.out⟩
      simp [results, Tryd.results11, go_sem]
    · have HZ2 := Lib.hid (HZ1.out.trans (if_neg h0))
      have hbb : (L n).b ≠ b0 := fun e => by
        rw [← hb] at e
        exact HM1.out.apart n [] _ _ HF.out.at' (T_root t) h0 _ (own_mem.2 (.inl rfl)) (own_mem.2 (.inl e))
      have heq : (binOp .eql 39 (.pointer (some ⟨(L n).b, 0, none⟩)) (.pointer (some ⟨b0, 0, none⟩))).run Tryd.prog w1 = .ok (.bool false) w1 := by
        rw [← hb] at hbb ⊢
        exact eql_other HN.out (HM1.out.nod _ _ _ (T_root t)) hbb
      have hlen := HN.out.kids hW
      have HK := Lib.hid (kidT_len t n)
      obtain ⟨m, z, rfl⟩ := names_last h0
      obtain ⟨i, hi⟩ := fi_of_T h0 HF.out.at'
      have HD := Lib.hid (drop_any w1 N b0 i t L p m z _ HM1.out hb hW hp HF.out.spl HF.out.at' hi)
      have HFV := Lib.hid (show (fv t (m ++ [z])).toNat = i by unfold Tre.fv; rw [hi]; rfl)
      clear h0 hi
      generalize hn : m ++ [z] = n at *
      generalize hy : L n = y at *
      generalize hk : (kidL t n).length = k at *
      by_cases hk0 : 0 < k
      · have HZ := Lib.hid (HZ2.out.trans (if_pos (by rw [HK.out]; exact hk0)))
        go_wp2
        refine bodyPost_ret (v := .int .i64 8) ?_ rfl ⟨by rw [HZ.out], by rw [HZ.out]; exact TrkR.same HM.out HB1.out⟩
        simp [results, Tryd.results11, go_sem]
      · have HZ := Lib.hid (HZ2.out.trans (if_neg (by rw [HK.out]; exact hk0)))
        go_wp2_with fail
        refine HD.out.mono ?_
        rintro e w2 ⟨rfl, hr⟩
        have HR := Lib.hid (TrkR.after HB1.out hr)
        clear hr
        go_wp2
        refine bodyPost_ret (v := .int .i64 0) ?_ rfl ⟨by rw [HZ.out], by rw [HZ.out, HFV.out]; exact HR.out⟩
        simp [results, Tryd.results11, go_sem]
end Trk
end Go.Proofs.YtafkccdbnfelkaaDoor
/- Each deed leaves a tree in which each thing has its directory. -/
namespace Go.Proofs.YtafkccdbnfelkaaDoor
open Go.RowKit Go.MapKept
namespace Trk
open Tre (Nm Th fi isDirAt dirT goT goF setT dropT fileT addT zt datT unlinkT rmdirT kidT kidL fv writeT wrT truncT)
open Pat (Txs)

theorem Wf.added {t : List Th} (hW : Wf t) {n : Nm} {d : Bool} (h0 : n ≠ []) (hI : Pat.IsNames n) (hn : T t n = none) (hup : ∃ s, T t (n.take (n.length - 1)) = some (true, s)) : Wf (t ++ [(n, d, ByteArray.empty)]) := by
  obtain ⟨_, hfi⟩ := T_no hn
  have hT : ∀ q, T (t ++ [(n, d, ByteArray.empty)]) q = if q = n then some (d, ByteArray.empty) else T t q := T_app (x := (n, d, ByteArray.empty)) h0 hfi
  have hnm : ∀ x ∈ t, x.1 ≠ n := fun x hx e => by
    obtain ⟨i, hi⟩ := fi_mem hx
    rw [e, hfi] at hi
    cases hi
  refine ⟨?_, fun x hx => ?_, fun p x v hv => ?_, fun p s hp => ?_, fun x hx => ?_⟩
  · unfold Once
    rw [List.map_append, List.nodup_append]
    refine ⟨hW.once, by simp, fun a ha b hb e => ?_⟩
    obtain ⟨x, hx, rfl⟩ := List.mem_map.1 ha
    have hb : b = n := by simpa using hb
    exact hnm x hx (e.trans hb)
  · rcases List.mem_append.1 hx with hx | hx
    · exact hW.nm x hx
    · obtain rfl : x = (n, d, ByteArray.empty) := by simpa using hx
      exact ⟨h0, hI⟩
  · rw [hT] at hv
    by_cases e : p ++ [x] = n
    · have ep : n.take (n.length - 1) = p := by rw [← e]; simp
      rw [ep] at hup
      obtain ⟨s, hs⟩ := hup
      refine ⟨s, ?_⟩
      rw [hT, if_neg (fun e' => app_self (x := x) (e.trans e'.symm)), hs]
    · rw [if_neg e] at hv
      obtain ⟨s, hs⟩ := hW.up _ _ _ hv
      refine ⟨s, ?_⟩
      rw [hT, if_neg (fun e' => by rw [e', hn] at hs; cases hs), hs]
  · rw [hT] at hp
    by_cases e : p = n
    · rw [if_pos e] at hp
      injection hp with hp
      injection hp with _ hp
      exact hp.symm
    · rw [if_neg e] at hp
      exact hW.dat p s hp
  · rcases List.mem_append.1 hx with hx | hx
    · exact hW.size x hx
    · obtain rfl : x = (n, d, ByteArray.empty) := by simpa using hx
      show ByteArray.empty.size ≤ 268435456
      decide
theorem Wf.add {t : List Th} (hW : Wf t) (p : ByteArray) (d : Bool) : Wf (addT t p d).1 := by
  cases hs : Pat.spl p with
  | none => rw [Tre.addT_none hs]; exact hW
  | some n =>
    by_cases h0 : n = []
    · rw [h0] at hs
      rw [Tre.addT_root hs]; exact hW
    · by_cases hg : goT t (n.take (n.length - 1)) = 0
      · obtain ⟨v, hv⟩ := goT_some hg
        have hd := dirT_T hv
        cases hv1 : v.1 with
        | false => rw [Tre.addT_file hs h0 hg (hd.trans hv1)]; exact hW
        | true =>
          cases hf : fi t n with
          | some i => rw [Tre.addT_there hs h0 hg (hd.trans hv1) hf]; exact hW
          | none =>
            rw [Tre.addT_yes hs h0 hg (hd.trans hv1) hf]
            exact hW.added h0 (spl_is hs) (T_none h0 hf) ⟨v.2, by rw [hv, ← hv1]⟩
      · rw [Tre.addT_go hs h0 hg]; exact hW
theorem Wf.set {t : List Th} (hW : Wf t) {n : Nm} {i : Nat} {s u : ByteArray} (h0 : n ≠ []) (hi : fi t n = some i) (hv : T t n = some (false, s)) (hu : u.size ≤ 268435456) : Wf (setT t i u) := by
  have hT := T_set h0 hi hv u
  refine ⟨?_, fun x hx => ?_, fun p x v hv' => ?_, fun p s' hp => ?_, fun x hx => ?_⟩
  · unfold Once
    rw [setT_names]
    exact hW.once
  · have : x.1 ∈ t.map (·.1) := by
      rw [← setT_names t i u]
      exact List.mem_map.2 ⟨x, hx, rfl⟩
    obtain ⟨y, hy, e⟩ := List.mem_map.1 this
    rw [← e]
    exact hW.nm y hy
  · rw [hT] at hv'
    have key : ∃ s, T t p = some (true, s) := by
      by_cases e : p ++ [x] = n
      · rw [← e] at hv
        exact hW.up _ _ _ hv
      · rw [if_neg e] at hv'
        exact hW.up _ _ _ hv'
    obtain ⟨s', hs'⟩ := key
    refine ⟨s', ?_⟩
    rw [hT, if_neg (fun e => by rw [e, hv] at hs'; cases hs'), hs']
  · rw [hT] at hp
    by_cases e : p = n
    · rw [if_pos e] at hp
      cases hp
    · rw [if_neg e] at hp
      exact hW.dat p s' hp
  · obtain ⟨j, hj⟩ := List.getElem?_of_mem hx
    rw [setT_at] at hj
    cases hy : t[j]? with
    | none => rw [hy] at hj; cases hj
    | some y =>
      rw [hy] at hj
      simp only [Option.map_some, Option.some.injEq] at hj
      rw [← hj]
      split
      · exact hu
      · exact hW.size y (List.mem_of_getElem? hy)
theorem Wf.drop {t : List Th} (hW : Wf t) {n : Nm} {i : Nat} (h0 : n ≠ []) (hi : fi t n = some i) (hk : ∀ x, T t (n ++ [x]) = none) : Wf (dropT t i) := by
  have hT := T_drop hW.once h0 hi
  obtain ⟨h1, _, _⟩ := Tre.fi_some hi
  refine ⟨once_drop hW.once i, fun x hx => hW.nm x ((mem_drop hW.once h1 x).1 hx).1, fun p x v hv => ?_, fun p s hp => ?_, fun x hx => hW.size x ((mem_drop hW.once h1 x).1 hx).1⟩
  · rw [hT] at hv
    by_cases e : p ++ [x] = n
    · rw [if_pos e] at hv
      cases hv
    · rw [if_neg e] at hv
      obtain ⟨s, hs⟩ := hW.up _ _ _ hv
      refine ⟨s, ?_⟩
      rw [hT, if_neg (fun e' => by rw [e', hk x] at hv; cases hv), hs]
  · rw [hT] at hp
    by_cases e : p = n
    · rw [if_pos e] at hp
      cases hp
    · rw [if_neg e] at hp
      exact hW.dat p s hp
theorem Wf.leaf {t : List Th} (hW : Wf t) {n : Nm} {s : ByteArray} (h : T t n = some (false, s)) (x : ByteArray) : T t (n ++ [x]) = none := by
  cases hv : T t (n ++ [x]) with
  | none => rfl
  | some v =>
    obtain ⟨s', hs'⟩ := hW.up _ _ _ hv
    rw [h] at hs'
    cases hs'
theorem file_yes {t : List Th} {p : ByteArray} (h : (fileT t p).2 = 0) : ∃ n i s, IsFile t p n i s := by
  by_cases hg : ge t p = 0
  · obtain ⟨n, ⟨d, s⟩, hs, hn, hv, _⟩ := ge_yes (L := fun _ => ⟨0, none, 0, none⟩) hg
    cases d with
    | true => rw [no_file hs hn hv] at h; cases h
    | false =>
      obtain ⟨i, hi⟩ := is_file hs hn hv
      exact ⟨n, i, s, hi⟩
  · rw [(ge_no (L := fun _ => ⟨0, none, 0, none⟩) hg).2] at h
    exact absurd h hg
theorem ovr_size {s : ByteArray} {a : Nat} {bs : List Nat} (h0 : bs ≠ []) : (ovr s a bs).size = max s.size (a + bs.length) := by
  unfold ovr
  have hp : (pad s (a + bs.length)).size = max s.size (a + bs.length) := by
    by_cases h : s.size ≤ a + bs.length
    · rw [pad_size h]; omega
    · rw [pad_none (by omega)]; omega
  rw [if_neg h0, Crc.str_size, ovl_len (by rw [Crc.tx_len, hp]; omega), Crc.tx_len, hp]
theorem Wf.write {t : List Th} (hW : Wf t) (p : ByteArray) (x : Int) {bs : List Nat} (hb : Crc.Byt bs) : Wf (writeT t p x (Crc.str bs)).1 := by
  unfold Tre.writeT
  by_cases he : (fileT t p).2 ≠ 0
  · rw [if_pos he]; exact hW
  · rw [if_neg he]
    obtain ⟨n, i, s, hf⟩ := file_yes (by simpa using he)
    obtain ⟨f1, f2, _⟩ := fileT_file hf
    rw [f1, f2]
    by_cases hx : x < 0 ∨ 268435456 < x ∨ 268435456 < x + ((Crc.str bs).size : Int)
    · rw [if_pos hx]; exact hW
    · rw [if_neg hx]
      by_cases h0 : (Crc.str bs).size = 0
      · rw [if_pos h0]; exact hW
      · rw [if_neg h0]
        have hb0 : bs ≠ [] := fun e => h0 (by rw [e]; rfl)
        obtain ⟨a, rfl⟩ : ∃ a : Nat, x = (a : Int) := ⟨x.toNat, by omega⟩
        rw [← ovr_wr hb hb0]
        refine hW.set hf.ne hf.fi hf.at' ?_
        rw [ovr_size hb0]
        rw [Crc.str_size] at hx
        have := hW.fsize hf.at'
        omega
theorem Wf.unlink {t : List Th} (hW : Wf t) (p : ByteArray) : Wf (unlinkT t p).1 := by
  unfold Tre.unlinkT
  by_cases he : (fileT t p).2 ≠ 0
  · rw [if_pos he]; exact hW
  · rw [if_neg he]
    obtain ⟨n, i, s, hf⟩ := file_yes (by simpa using he)
    rw [(fileT_file hf).2.1]
    exact hW.drop hf.ne hf.fi (hW.leaf hf.at')
theorem Wf.rmdir {t : List Th} (hW : Wf t) (p : ByteArray) : Wf (rmdirT t p).1 := by
  by_cases he : dirE t p = 0
  · unfold dirE at he
    cases hs : Pat.spl p with
    | none => rw [hs] at he; cases he
    | some n =>
      rw [hs] at he
      simp only at he
      by_cases hg : goT t n = 0
      · rw [if_neg (fun h => h hg)] at he
        by_cases hd : dirT t n = false
        · rw [if_pos hd] at he
          cases he
        · obtain ⟨⟨d, s⟩, hv⟩ := goT_some hg
          have hdv := dirT_T hv
          have hdt : d = true := by cases d <;> simp_all
          subst hdt
          rw [rmdirT_yes ⟨hs, hv, hg, hdv⟩]
          by_cases h0 : n = []
          · rw [if_pos h0]; exact hW
          · rw [if_neg h0]
            by_cases hk : 0 < (kidT t n).length
            · rw [if_pos hk]; exact hW
            · rw [if_neg hk]
              obtain ⟨i, hi⟩ := fi_of_T h0 hv
              have : (fv t n).toNat = i := by unfold Tre.fv; rw [hi]; rfl
              rw [this]
              refine hW.drop h0 hi (fun x => ?_)
              cases hx : T t (n ++ [x]) with
              | none => rfl
              | some u =>
                have := (kidL_mem hW.once (n := n) (x := x)).2 (by rw [hx]; rfl)
                rw [kidT_len] at hk
                exact absurd (List.length_pos_of_mem this) hk
      · rw [if_pos hg] at he
        exact absurd he hg
  · rw [rmdirT_no he]; exact hW
end Trk
end Go.Proofs.YtafkccdbnfelkaaDoor
/- CrcSums, walked: both sums are the document's, as of all bytes in one. -/
namespace Go.Proofs.YtafkccdbnfelkaaDoor
open Go.RowKit Go.MapKept
namespace Crc

section
variable {w : World}
theorem str_append (l m : List Nat) : str (l ++ m) = str l ++ str m := by
  apply ByteArray.ext
  rw [ByteArray.data_append]
  simp [str]

theorem flat_len {ps : List Prt} (h : ∀ i (h : i < ps.length), ps[i].l.length ≤ 200) : (flat ps).length ≤ 200 * ps.length := by
  induction ps with
  | nil => simp [flat]
  | cons q ps ih =>
    have h0 := h 0 (by simp)
    have h1 := ih (fun i hi => by
      have := h (i + 1) (by simpa using hi)
      simpa using this)
    simp only [flat, List.flatMap_cons, List.length_append, List.length_cons, List.getElem_cons_zero] at *
    omega

theorem bts_text (W : World) (s : ByteArray) (cap : Nat) (fr : Nat × Nat) (hs : s.size < 1000000000000) : Bts (W.alloc (.cells (bytesRow s cap) 5 fr)) (some ⟨W.heap.size, 0, none⟩) (tx s) :=
  ⟨tx_byt s, by rw [tx_len]; omega, fun j hj => ⟨W.heap.size, 0, rfl, by simp, by
    rw [World.cell?_alloc_mark, Nat.zero_add]
    rw [tx_len] at hj
    rw [bytesRow_at s cap j hj]
    congr 2
    simp [tx]⟩⟩

/-- a text's bytes, anew -/
theorem conv_bytes (W : World) (l : List Nat) (hb : Byt l) (hl : l.length ≤ 4000) : ∃ (W2 : World) (gc : Nat), (convert 9 23 (.string (str l))).run Tryd.prog W = .ok (.slice (some ⟨W.heap.size, 0, none⟩) l.length gc) W2 ∧ Bts W2 (some ⟨W.heap.size, 0, none⟩) l ∧ Below W.heap.size W W2 := by
  have h := run_bytes_of_string (P := Tryd.prog) W 9 23 5 (str l) Tryd.underlying9 Tryd.underlying23 Tryd.underlying5
  have hz := str_size l
  have hbt := bts_text W.drew (str l) (grownCap W (str l).size 0 5) ((bytesRow (str l) (grownCap W (str l).size 0 5)).size, (bytesRow (str l) (grownCap W (str l).size 0 5)).size + 1) (by omega)
  rw [tx_str hb] at hbt
  refine ⟨_, grownCap W (str l).size 0 5, ?_, hbt, (Below.refl _ _).drew.alloc (Nat.le_refl _) _⟩
  rw [h, hz]

end
end Crc
end Go.Proofs.YtafkccdbnfelkaaDoor
/- Law 13's example. -/
namespace Go.Proofs.YtafkccdbnfelkaaDoor
open Go.RowKit Go.MapKept
namespace Trk
open Tre (Nm Th fi isDirAt dirT goT goF setT dropT fileT addT zt datT unlinkT rmdirT kidT kidL fv writeT wrT truncT readT)
open Pat (Txs)

/-- a tree of the call's own -/
def Own (w0 : World) (B N : Nat) (t : List Th) (b : Nat) (w : World) : Prop := ∃ L, Mem w N t L ∧ (L []).b = b ∧ (∀ i, Fp t L i → B ≤ i) ∧ Below B w0 w ∧ B ≤ w.heap.size
theorem Own.keep {w0 w w' : World} {B N b : Nat} {t : List Th} (h : Own w0 B N t b w) (hb : Below w.heap.size w w') : Own w0 B N t b w' := by
  obtain ⟨L, h1, h2, h3, h4, h5⟩ := h
  exact ⟨L, h1.keep hb, h2, h3, h4.trans (hb.mono h5), Nat.le_trans h5 hb.size⟩
theorem Own.step {w0 w w' : World} {B N b : Nat} {t t' : List Th} {L : Nm → Nd} (hF : ∀ i, Fp t L i → B ≤ i) (hb : (L []).b = b) (hB : Below B w0 w) (hs : B ≤ w.heap.size) (h : TrkR w N t L t' w') : Own w0 B (N + 1) t' b w' := by
  obtain ⟨h1, L', h2, h3, h4⟩ := h
  refine ⟨L', h2, h3.trans hb, fun i hi => (h4 i hi).elim (hF i) (fun e => Nat.le_trans hs e), hB.trans (h1.below hs hF), Nat.le_trans hs h1.size⟩
theorem own_new {w w' : World} (hm : Mem w' 0 [] (L0 w.heap.size)) (hb : Below w.heap.size w w') : Own w w.heap.size 0 [] w.heap.size w' := by
  refine ⟨_, hm, rfl, fun i hi => ?_, hb, hb.size⟩
  obtain ⟨p, v, _, hi⟩ := hi
  have : i = w.heap.size := by simpa [own, L0] using hi
  omega

def t1 : List Th := [([⟨#[97]⟩], true, ByteArray.empty)]
def t2 : List Th := [([⟨#[97]⟩], true, ByteArray.empty), ([⟨#[97]⟩, ⟨#[98]⟩], false, ByteArray.empty)]
def t3 : List Th := [([⟨#[97]⟩], true, ByteArray.empty), ([⟨#[97]⟩, ⟨#[98]⟩], false, ⟨#[0, 0, 120]⟩)]
theorem e1 : addT [] ⟨#[47, 97]⟩ true = (t1, 0) := by kernel_rfl
theorem e2 : addT t1 ⟨#[47, 97, 47, 98]⟩ false = (t2, 0) := by kernel_rfl
theorem e3 : writeT t2 ⟨#[47, 97, 47, 98]⟩ 2 (Crc.str [120]) = (t3, 0) := by kernel_rfl
theorem e4 : rmdirT t3 ⟨#[47, 97]⟩ = (t3, 8) := by kernel_rfl
theorem e5 : readT t3 ⟨#[47, 97, 47, 98]⟩ 0 9 = (⟨#[0, 0, 120]⟩, 0) := by kernel_rfl
theorem w1f : Wf t1 := by
  have := wf_nil.add ⟨#[47, 97]⟩ true
  rw [e1] at this
  exact this
theorem w2f : Wf t2 := by
  have := w1f.add ⟨#[47, 97, 47, 98]⟩ false
  rw [e2] at this
  exact this
theorem w3f : Wf t3 := by
  have := w2f.write ⟨#[47, 97, 47, 98]⟩ 2 (bs := [120]) (by unfold Crc.Byt; decide)
  rw [e3] at this
  exact this
theorem bts_mark (w : World) : Crc.Bts (w.alloc (.cells #[.int .u8 120] 5 (1, 2))) (some ⟨w.heap.size, 0, none⟩) [120] := by
  refine ⟨by unfold Crc.Byt; decide, by decide, fun j hj => ⟨w.heap.size, 0, rfl, by simp, ?_⟩⟩
  obtain rfl : j = 0 := by simpa using hj
  rw [World.cell?_alloc_mark]
  rfl
section
variable {w0 w : World} {B b : Nat}
theorem mkdir_ex (h : Own w0 B 0 [] b w) :
    Calls Tryd.prog 10 #[.pointer (some ⟨b, 0, none⟩), .string ⟨#[47, 97]⟩] w fun e w' => e = .returned (.int .i64 0) ∧ Own w0 B 1 t1 b w' := by
  obtain ⟨L, h1, h2, h3, h4, h5⟩ := h
  have h := mkdir_any w 0 b [] L ⟨#[47, 97]⟩ h1 h2 wf_nil (by decide) (by decide)
  rw [e1] at h
  exact h.mono fun e w' hr => ⟨hr.1, Own.step h3 h2 h4 h5 hr.2⟩
theorem create_ex (h : Own w0 B 1 t1 b w) :
    Calls Tryd.prog 6 #[.pointer (some ⟨b, 0, none⟩), .string ⟨#[47, 97, 47, 98]⟩] w fun e w' => e = .returned (.int .i64 0) ∧ Own w0 B 2 t2 b w' := by
  obtain ⟨L, h1, h2, h3, h4, h5⟩ := h
  have h := create_any w 1 b t1 L ⟨#[47, 97, 47, 98]⟩ h1 h2 w1f (by decide) (by decide)
  rw [e2] at h
  exact h.mono fun e w' hr => ⟨hr.1, Own.step h3 h2 h4 h5 hr.2⟩
theorem write_ex {w1 : World} (c : Nat) (h : Own w0 B 2 t2 b w) (hb : Below w.heap.size w w1) (hB : Crc.Bts w1 (some ⟨w.heap.size, 0, none⟩) [120]) :
    Calls Tryd.prog 7 #[.pointer (some ⟨b, 0, none⟩), .string ⟨#[47, 97, 47, 98]⟩, .int .i64 2, .slice (some ⟨w.heap.size, 0, none⟩) 1 c] w1 fun e w' => e = .returned (.int .i64 0) ∧ Own w0 B 3 t3 b w' := by
  obtain ⟨L, h1, h2, h3, h4, h5⟩ := h
  have h := wr_any w1 2 b t2 L ⟨#[47, 97, 47, 98]⟩ 2 1 c _ [120] (h1.keep hb) h2 w2f (by decide) rfl (by decide) hB (fun ad e _ hi => by injection e with e; subst e; have := h1.lt hi; simp at this)
  rw [e3] at h
  exact h.mono fun e w' hr => ⟨hr.1, Own.step h3 h2 (h4.trans (hb.mono h5)) (Nat.le_trans h5 hb.size) hr.2⟩
theorem rmdir_ex (h : Own w0 B 3 t3 b w) :
    Calls Tryd.prog 11 #[.pointer (some ⟨b, 0, none⟩), .string ⟨#[47, 97]⟩] w fun e w' => e = .returned (.int .i64 8) ∧ Own w0 B 4 t3 b w' := by
  obtain ⟨L, h1, h2, h3, h4, h5⟩ := h
  have h := rmdir_any w 3 b t3 L ⟨#[47, 97]⟩ h1 h2 w3f (by decide)
  rw [e4] at h
  exact h.mono fun e w' hr => ⟨hr.1, Own.step h3 h2 h4 h5 hr.2⟩
theorem read_ex (h : Own w0 B 4 t3 b w) :
    Calls Tryd.prog 8 #[.pointer (some ⟨b, 0, none⟩), .string ⟨#[47, 97, 47, 98]⟩, .int .i64 0, .int .i64 9] w fun e w' => ∃ (G : Option Addr) (gc : Nat), e = .returned (.tuple #[.slice G 3 gc, .int .i64 0]) ∧ Crc.Bts w' G [0, 0, 120] ∧ Below B w0 w' := by
  obtain ⟨L, h1, h2, h3, h4, h5⟩ := h
  have h := rd_any w 4 b t3 L ⟨#[47, 97, 47, 98]⟩ 0 9 h1 h2 w3f (by decide) (by decide) (by decide)
  rw [e5] at h
  refine h.mono ?_
  rintro e w' ⟨G, n, gc, rfl, hn, ho, hb'⟩
  obtain rfl : n = 3 := by rw [← hn]; rfl
  exact ⟨G, gc, rfl, Crc.own_bts ho (by unfold Crc.Byt; decide) (by decide), h4.trans (hb'.mono h5)⟩
end

set_option maxRecDepth 100000 in
set_option maxHeartbeats 1000000 in
theorem lives_any (w : World) : Calls Tryd.prog 4 #[] w fun e w' => e = .returned (.bool true) ∧ Below w.heap.size w w' := by
  have H0 := Lib.hid (new_any w)
  have H1 := Lib.hid Pat.lives_any
  go_enter Tryd.func4, Tryd.ntmps4
  go_wp2_with fail
  refine H0.out.mono ?_
  rintro e wa ⟨rfl, hm, hb, _⟩
  have HA := Lib.hid (own_new hm hb)
  clear hm hb H0
  generalize hbb : w.heap.size = b at *
  have HBB := Lib.hid hbb
  clear hbb
  go_wp2_with fail
  refine (H1.out _).mono ?_
  rintro e wb ⟨rfl, hb⟩
  have HB := Lib.hid (HA.out.keep hb)
  clear hb
  go_wp2_with fail
  refine (mkdir_ex HB.out).mono ?_
  rintro e wc ⟨rfl, hc⟩
  have HC := Lib.hid hc
  clear hc
  go_wp2_with fail
  refine (create_ex HC.out).mono ?_
  rintro e wd ⟨rfl, hd⟩
  have HD := Lib.hid hd
  clear hd
  have hcv := Crc.conv_new wd #[.int .u8 120] 1 1
  have HE := Lib.hid (write_ex 1 HD.out ((Below.refl _ wd).alloc (Nat.le_refl _) (.cells #[.int .u8 120] 5 (1, 2))) (bts_mark wd))
  go_wp2_with fail
  refine HE.out.mono ?_
  rintro e wf ⟨rfl, hf⟩
  have HF := Lib.hid hf
  clear hf
  go_wp2_with fail
  refine (rmdir_ex HF.out).mono ?_
  rintro e wg ⟨rfl, hg⟩
  have HG := Lib.hid hg
  clear hg
  go_wp2_with fail
  refine (read_ex HG.out).mono ?_
  rintro e wh ⟨G, gc2, rfl, hbt, hbh⟩
  have HH := Lib.hid hbh
  have hcs := Crc.conv_str gc2 hbt
  simp only [show Crc.str [0, 0, 120] = ⟨#[0, 0, 120]⟩ from rfl, List.length_cons, List.length_nil, Nat.zero_add] at hcs
  clear hbt hbh
  go_wp2
  go_ret
  exact ⟨rfl, by rw [HBB.out]; exact HH.out⟩
end Trk
end Go.Proofs.YtafkccdbnfelkaaDoor
/- Law 13's TreeReads. -/
namespace Go.Proofs.YtafkccdbnfelkaaDoor
open Go.RowKit Go.MapKept
namespace Trk
open Tre (Nm Th fi isDirAt dirT goT goF setT dropT fileT addT zt datT unlinkT rmdirT kidT kidL fv writeT wrT truncT readT rdT)
open Pat (Txs)

/-- a byte, or 0 -/
def V (l : List Nat) (i : Nat) : Nat := l[i]?.getD 0
theorem V_pad (l : List Nat) (k i : Nat) : V (l ++ List.replicate k 0) i = V l i := by
  unfold V
  by_cases h : i < l.length
  · rw [List.getElem?_append_left h]
  · rw [List.getElem?_append_right (by omega), List.getElem?_eq_none (l := l) (by omega)]
    by_cases h' : i - l.length < k
    · rw [List.getElem?_eq_getElem (by simpa using h')]
      simp
    · rw [List.getElem?_eq_none (by simp; omega)]
theorem V_ovr {s : ByteArray} {a : Nat} {bs : List Nat} (hb : Crc.Byt bs) (i : Nat) : V (Crc.tx (ovr s a bs)) i = if a ≤ i ∧ i - a < bs.length then V bs (i - a) else V (Crc.tx s) i := by
  unfold ovr
  by_cases h0 : bs = []
  · rw [if_pos h0, if_neg (by rw [h0]; simp)]
  · rw [if_neg h0, Crc.tx_str (ovl_byt (tx_byt _) hb)]
    have hl : (Crc.tx (pad s (a + bs.length))).length = max s.size (a + bs.length) := by
      rw [Crc.tx_len]
      by_cases h : s.size ≤ a + bs.length
      · rw [pad_size h]; omega
      · rw [pad_none (by omega)]; omega
    have hv : V (Crc.tx s) i = V (Crc.tx (pad s (a + bs.length))) i := by rw [tx_pad, V_pad]
    rw [hv]
    generalize Crc.tx (pad s (a + bs.length)) = l at *
    unfold ovl V
    by_cases h1 : i < a
    · rw [if_neg (by omega), List.append_assoc, List.getElem?_append_left (by rw [List.length_take]; omega), List.getElem?_take, if_pos h1]
    · by_cases h2 : i - a < bs.length
      · rw [if_pos ⟨by omega, h2⟩, List.append_assoc, List.getElem?_append_right (by rw [List.length_take]; omega), List.length_take, Nat.min_eq_left (by omega), List.getElem?_append_left h2]
      · rw [if_neg (fun h => h2 h.2), List.getElem?_append_right (by rw [List.length_append, List.length_take]; omega), List.length_append, List.length_take, Nat.min_eq_left (by omega), List.getElem?_drop]
        congr 2
        omega

def pf : ByteArray := ⟨#[47, 102]⟩
def tf (s : ByteArray) : List Th := [([⟨#[102]⟩], false, s)]
theorem f1 : addT [] pf false = (tf ByteArray.empty, 0) := by kernel_rfl
theorem f2 (s : ByteArray) : fileT (tf s) pf = (0, 0) := by kernel_rfl
theorem wf_tf {s : ByteArray} (hs : s.size ≤ 268435456) : Wf (tf s) := by
  have h0 := wf_nil.add pf false
  rw [f1] at h0
  exact h0.set (n := [⟨#[102]⟩]) (i := 0) (s := ByteArray.empty) (by simp) (by kernel_rfl) (by kernel_rfl) hs
theorem f3 (s : ByteArray) (a : Nat) (bs : List Nat) (hb : Crc.Byt bs) (ha : a + bs.length ≤ 268435456) : writeT (tf s) pf (a : Int) (Crc.str bs) = (tf (ovr s a bs), 0) := by
  unfold Tre.writeT
  rw [f2, if_neg (by simp), if_neg (by rw [Crc.str_size]; omega)]
  by_cases h0 : bs = []
  · rw [if_pos (by rw [h0]; rfl)]
    unfold ovr
    rw [if_pos h0]
  · rw [if_neg (by rw [Crc.str_size]; exact fun h => h0 (List.eq_nil_of_length_eq_zero h)), ovr_wr hb h0]
    rfl
theorem f4 (s : ByteArray) (hs : s.size ≤ 5000) : Crc.tx (readT (tf s) pf 0 5000).1 = Crc.tx s ∧ (readT (tf s) pf 0 5000).2 = 0 := by
  unfold Tre.readT
  rw [f2, if_neg (by simp), if_neg (by simp)]
  refine ⟨?_, rfl⟩
  show Crc.tx (rdT s 0 5000) = _
  unfold Tre.rdT
  by_cases h : (s.size : Int) ≤ 0
  · rw [if_pos h]
    have : (Crc.tx s).length = 0 := by rw [Crc.tx_len]; omega
    rw [List.eq_nil_of_length_eq_zero this]
    rfl
  · have e : Crc.tx (s.extract (0 : Int).toNat s.size) = Crc.tx s := by
      rw [Ent.tx_extract]
      show (Crc.tx s).take s.size = _
      exact List.take_of_length_le (by rw [Crc.tx_len]; exact Nat.le_refl _)
    have e' : (s.extract (0 : Int).toNat s.size).size = s.size := by rw [← Crc.tx_len, e, Crc.tx_len]
    rw [if_neg h, if_neg (by rw [e']; omega), e]

section
variable {w0 w : World} {B b : Nat}
theorem create_f (h : Own w0 B 0 [] b w) :
    Calls Tryd.prog 6 #[.pointer (some ⟨b, 0, none⟩), .string ⟨#[47, 102]⟩] w fun e w' => e = .returned (.int .i64 0) ∧ Own w0 B 1 (tf ByteArray.empty) b w' := by
  obtain ⟨L, h1, h2, h3, h4, h5⟩ := h
  have h := create_any w 0 b [] L pf h1 h2 wf_nil (by decide) (by decide)
  rw [f1] at h
  exact h.mono fun e w' hr => ⟨hr.1, Own.step h3 h2 h4 h5 hr.2⟩
theorem write_f {N m c a : Nat} {s : ByteArray} {A : Option Addr} {bs : List Nat} (hs : s.size ≤ 268435456) (h : Own w0 B N (tf s) b w) (hm : bs.length = m) (hml : m ≤ 500) (ha : a ≤ 100000) (hA : Crc.Bts w A bs) (hB : ∀ ad, A = some ad → bs ≠ [] → ad.block < B) :
    Calls Tryd.prog 7 #[.pointer (some ⟨b, 0, none⟩), .string ⟨#[47, 102]⟩, .int .i64 (a : Int), .slice A m c] w fun e w' => e = .returned (.int .i64 0) ∧ Own w0 B (N + 1) (tf (ovr s a bs)) b w' := by
  obtain ⟨L, h1, h2, h3, h4, h5⟩ := h
  have h := wr_any w N b (tf s) L pf (a : Int) m c A bs h1 h2 (wf_tf hs) (by decide) hm (by omega) hA (fun ad e h0 hi => by have := h3 _ hi; have := hB ad e h0; omega)
  rw [f3 s a bs hA.byt (by omega)] at h
  exact h.mono fun e w' hr => ⟨hr.1, Own.step h3 h2 h4 h5 hr.2⟩
theorem read_f {N : Nat} {s : ByteArray} (hs : s.size ≤ 5000) (h : Own w0 B N (tf s) b w) :
    Calls Tryd.prog 8 #[.pointer (some ⟨b, 0, none⟩), .string ⟨#[47, 102]⟩, .int .i64 0, .int .i64 5000] w fun e w' => ∃ (G : Option Addr) (n gc : Nat), e = .returned (.tuple #[.slice G n gc, .int .i64 0]) ∧ n = s.size ∧ Crc.Bts w' G (Crc.tx s) ∧ Below B w0 w' ∧ Below w.heap.size w w' := by
  obtain ⟨L, h1, h2, h3, h4, h5⟩ := h
  have h := rd_any w N b (tf s) L pf 0 5000 h1 h2 (wf_tf (by omega)) (by decide) (by decide) (by decide)
  obtain ⟨g1, g2⟩ := f4 s hs
  rw [g1, g2] at h
  refine h.mono ?_
  rintro e w' ⟨G, n, gc, rfl, hn, ho, hb'⟩
  rw [Crc.tx_len] at hn
  exact ⟨G, n, gc, rfl, hn.symm, Crc.own_bts ho (tx_byt s) (by omega), h4.trans (hb'.mono h5), hb'⟩
end

theorem bts_low {w w' : World} {b : Nat} {A : Option Addr} {l : List Nat} (h : Crc.Bts w A l) (hA : ∀ ad, A = some ad → l ≠ [] → ad.block < b) (hb : Below b w w') : Crc.Bts w' A l :=
  ⟨h.byt, h.len, fun j hj => by
    obtain ⟨g, o, e, hlt, hc⟩ := h.at' j hj
    have hg := hA _ e (fun h0 => by rw [h0] at hj; simp at hj)
    exact ⟨g, o, e, Nat.lt_of_lt_of_le hlt hb.size, (hb.cell (p := ⟨g, o + j, none⟩) hg).trans hc⟩⟩
theorem own_below {w0 w : World} {B N b : Nat} {t : List Th} (h : Own w0 B N t b w) : Below B w0 w := by
  obtain ⟨_, _, _, _, h4, _⟩ := h
  exact h4
set_option maxRecDepth 100000 in
set_option maxHeartbeats 4000000 in
theorem reads_law (w : World) (x y : Nat) (A B : Option Addr) (c d n m : Nat) (la bs : List Nat) (hx : x < 65536) (hy : y < 65536) (hA : Crc.Bts w A la) (hB : Crc.Bts w B bs) (hn : la.length = n) (hm : bs.length = m) :
    Calls Tryd.prog 3 #[.int .u16 (x : Int), .int .u16 (y : Int), .slice A n c, .slice B m d] w fun e w' => e = .returned (.bool true) ∧ Below w.heap.size w w' := by
  have HA := Lib.hid hA
  have HB := Lib.hid hB
  have HN := Lib.hid hn
  have HM := Lib.hid hm
  have HLV := Lib.hid lives_any
  have HA1' := Lib.hid hA.byt
  have HB1' := Lib.hid hB.byt
  have hnl := hA.len
  have hml := hB.len
  rw [hn] at hnl
  rw [hm] at hml
  clear hA hB hn hm
  go_enter Tryd.func3, Tryd.ntmps3
  go_wp2_with fail
  refine (HLV.out w).mono ?_
  rintro e w1 ⟨rfl, hb1⟩
  have HB1 := Lib.hid hb1
  have HA1 := Lib.hid (HA.out.keep hb1)
  have HBB1 := Lib.hid (HB.out.keep hb1)
  clear hb1
  have again : ∀ e w2, e = Ending.returned (.bool true) ∧ Below w1.heap.size w1 w2 → e = Ending.returned (.bool true) ∧ Below w.heap.size w w2 := fun e w2 h => ⟨h.1, HB1.out.trans (h.2.mono HB1.out.size)⟩
  have AG := Lib.hid again
  clear again
  by_cases hna : 500 < n
  · go_wp2_with fail
    refine (HLV.out w1).mono ?_
    rintro e w2 hr
    obtain ⟨rfl, hb2⟩ := AG.out _ _ hr
    have HB2 := Lib.hid hb2
    clear hr hb2
    go_wp2
    go_ret
    exact ⟨rfl, HB2.out⟩
  · by_cases hmb : 500 < m
    · go_wp2_with fail
      refine (HLV.out w1).mono ?_
      rintro e w2 hr
      obtain ⟨rfl, hb2⟩ := AG.out _ _ hr
      have HB2 := Lib.hid hb2
      clear hr hb2
      go_wp2
      go_ret
      exact ⟨rfl, HB2.out⟩
    · go_wp2_with fail
      have hxp : (x : Int) % 1500 = ((x % 1500 : Nat) : Int) := by omega
      have hyq : (y : Int) % 1500 = ((y % 1500 : Nat) : Int) := by omega
      have hp1 : x % 1500 < 1500 := Nat.mod_lt _ (by omega)
      have hq1 : y % 1500 < 1500 := Nat.mod_lt _ (by omega)
      simp only [hxp, hyq]
      generalize x % 1500 = p at *
      generalize y % 1500 = q at *
      clear hxp hyq
      refine (new_any w1).mono ?_
      rintro e w2 ⟨rfl, hm2, hb2, _⟩
      have HO2 := Lib.hid (own_new hm2 hb2)
      have HA2 := Lib.hid (HA1.out.keep hb2)
      have HB2 := Lib.hid (HBB1.out.keep hb2)
      have HBA := Lib.hid (fun ad (e : A = some ad) (h0 : la ≠ []) => show ad.block < w1.heap.size from by
        obtain ⟨b, o, e', hlt, _⟩ := HA1.out.at' 0 (List.length_pos_iff.2 h0)
        rw [e] at e'
        injection e' with e'
        rw [e']
        exact hlt)
      have HBB := Lib.hid (fun ad (e : B = some ad) (h0 : bs ≠ []) => show ad.block < w1.heap.size from by
        obtain ⟨b, o, e', hlt, _⟩ := HBB1.out.at' 0 (List.length_pos_iff.2 h0)
        rw [e] at e'
        injection e' with e'
        rw [e']
        exact hlt)
      clear hm2 hb2
      obtain ⟨b, hbe⟩ : ∃ b, b = w1.heap.size := ⟨_, rfl⟩
      rw [← hbe] at HO2 HBA HBB ⊢
      have HBE := Lib.hid hbe
      clear hbe
      go_wp2_with fail
      refine (create_f HO2.out).mono ?_
      rintro e w3 ⟨rfl, h3⟩
      have HO3 := Lib.hid h3
      have HA3 := Lib.hid (bts_low HA1.out HBA.out (own_below h3))
      have HB3 := Lib.hid (bts_low HBB1.out HBB.out (own_below h3))
      clear h3
      go_wp2_with fail
      refine (write_f (c := c) (by decide) HO3.out HN.out (by omega) (by omega) HA3.out HBA.out).mono ?_
      rintro e w4 ⟨rfl, h4⟩
      have HO4 := Lib.hid h4
      have HB4 := Lib.hid (bts_low HBB1.out HBB.out (own_below h4))
      have hz1 : (ovr ByteArray.empty p la).size = if 0 < n then p + n else 0 := by
        by_cases h : la = []
        · rw [if_neg (by rw [← HN.out, h]; simp)]
          unfold ovr
          rw [if_pos h]
          rfl
        · rw [if_pos (by rw [← HN.out]; exact List.length_pos_iff.2 h), ovr_size h, HN.out]
          exact Nat.max_eq_right (Nat.zero_le _)
      have hz1' : (ovr ByteArray.empty p la).size ≤ 2000 := by rw [hz1]; split <;> omega
      clear h4
      go_wp2_with fail
      refine (write_f (c := d) (by omega) HO4.out HM.out (by omega) (by omega) HB4.out HBB.out).mono ?_
      rintro e w5 ⟨rfl, h5⟩
      have HO5 := Lib.hid h5
      have hz2 : (ovr (ovr ByteArray.empty p la) q bs).size = if 0 < m then max (ovr ByteArray.empty p la).size (q + m) else (ovr ByteArray.empty p la).size := by
        by_cases h : bs = []
        · rw [if_neg (by rw [← HM.out, h]; simp)]
          unfold ovr
          rw [if_pos h]
        · rw [if_pos (by rw [← HM.out]; exact List.length_pos_iff.2 h), ovr_size h, HM.out]
      have hz2' : (ovr (ovr ByteArray.empty p la) q bs).size ≤ 5000 := by rw [hz2]; split <;> omega
      clear h5
      go_wp2_with fail
      refine (read_f hz2' HO5.out).mono ?_
      rintro e w6 ⟨G, k, gc, rfl, hk, hg, h6, _⟩
      have HA6 := Lib.hid (bts_low HA1.out HBA.out h6)
      have HB6 := Lib.hid (bts_low HBB1.out HBB.out h6)
      have HV := Lib.hid (fun i => show V (Crc.tx (ovr (ovr ByteArray.empty p la) q bs)) i = if q ≤ i ∧ i - q < m then V bs (i - q) else if p ≤ i ∧ i - p < n then V la (i - p) else 0 from by
        rw [V_ovr HB1'.out, HM.out, V_ovr HA1'.out, HN.out]
        rfl)
      have HG := Lib.hid hg
      have H6 := Lib.hid (HB1.out.trans ((HBE.out ▸ h6).mono HB1.out.size))
      have hkl : (Crc.tx (ovr (ovr ByteArray.empty p la) q bs)).length = k := by rw [Crc.tx_len, hk]
      have HKL := Lib.hid hkl
      rw [← hk] at hz2
      rw [hz1] at hz2
      generalize Crc.tx (ovr (ovr ByteArray.empty p la) q bs) = l at *
      clear hk hg h6 hz1 hz1' hz2' hkl
      by_cases hn0 : 0 < n <;> by_cases hm0 : 0 < m
      all_goals simp only [hn0, hm0, if_true, if_false] at hz2
      all_goals first
        | have hkE : (k : Int) = max ((p : Int) + (n : Int)) ((q : Int) + (m : Int)) := by omega
        | have hkE : (k : Int) = (p : Int) + (n : Int) := by omega
        | have hkE : (k : Int) = max 0 ((q : Int) + (m : Int)) := by omega
        | have hkE : (k : Int) = 0 := by omega
      all_goals
        clear hz2
        go_wp2_with fail
      all_goals
        go_loopw [86] (fun ix wr => ∃ j : Nat, j ≤ k ∧ ix = .int .i64 (j : Int) ∧ wr = w6) (fun ix _ => k - (intOf ix).toNat)
        case atStart => exact ⟨0, Nat.zero_le _, rfl, rfl⟩
        case round =>
          obtain ⟨j, hj, rfl, rfl⟩ := hrel
          by_cases hlt : j < k
          · obtain ⟨g, o, rfl, _, hc0⟩ := HG.out.at' j (by rw [HKL.out]; exact hlt)
            have hv := HV.out j
            have hvl : V l j = l[j]'(by rw [HKL.out]; exact hlt) := by unfold V; rw [List.getElem?_eq_getElem]; rfl
            rw [hvl] at hv
            generalize l[j]'(by rw [HKL.out]; exact hlt) = xv at *
            clear hvl
            have hja : (p ≤ j ∧ j - p < n) ∨ ¬ (p ≤ j ∧ j - p < n) := Classical.em _
            have hjb : (q ≤ j ∧ j - q < m) ∨ ¬ (q ≤ j ∧ j - q < m) := Classical.em _
            have hpq : (j < p ∨ (p ≤ j ∧ n ≤ j - p)) ∨ (p ≤ j ∧ j - p < n) := by omega
            rcases hjb with hjb | hjb
            · rw [if_pos hjb] at hv
              obtain ⟨i2, hi2, hi2m⟩ : ∃ i2, j = q + i2 ∧ i2 < m := ⟨j - q, by omega, hjb.2⟩
              have hs2 : (j : Int) - (q : Int) = (i2 : Int) := by omega
              have hq2 : ¬ (j : Int) < (q : Int) := by omega
              obtain ⟨g2, o2, rfl, _, hcb⟩ := HB6.out.at' i2 (by rw [HM.out]; exact hi2m)
              have hvb : V bs (j - q) = bs[i2]'(by rw [HM.out]; exact hi2m) := by unfold V; rw [show j - q = i2 by omega, List.getElem?_eq_getElem]; rfl
              rw [hvb] at hv
              rw [← hv] at hcb
              clear hjb hi2 hvb hv
              rcases hpq with (hlp | ⟨hlp, hle⟩) | hja
              · clear hja
                go_wp2
                all_goals first
                  | exact ⟨⟨j + 1, by omega, by go_num, by first | rfl | trivial⟩, by simp [intOf]; omega⟩
                  | (exfalso; omega)
              · obtain ⟨i1, hi1, hi1m⟩ : ∃ i1, j = p + i1 ∧ n ≤ i1 := ⟨j - p, by omega, hle⟩
                have hs1 : (j : Int) - (p : Int) = (i1 : Int) := by omega
                clear hja hi1 hle
                go_wp2
                all_goals first
                  | exact ⟨⟨j + 1, by omega, by go_num, by first | rfl | trivial⟩, by simp [intOf]; omega⟩
                  | (exfalso; omega)
              · obtain ⟨i1, hi1, hi1m⟩ : ∃ i1, j = p + i1 ∧ i1 < n := ⟨j - p, by omega, hja.2⟩
                have hs1 : (j : Int) - (p : Int) = (i1 : Int) := by omega
                have hp2 : ¬ (j : Int) < (p : Int) := by omega
                obtain ⟨g1, o1, rfl, _, hca⟩ := HA6.out.at' i1 (by rw [HN.out]; exact hi1m)
                clear hja hi1
                go_wp2
                all_goals first
                  | exact ⟨⟨j + 1, by omega, by go_num, by first | rfl | trivial⟩, by simp [intOf]; omega⟩
                  | (exfalso; omega)
            · rw [if_neg hjb] at hv
              have hqq : j < q ∨ (q ≤ j ∧ m ≤ j - q) := by omega
              clear hjb
              rcases hpq with (hlp | ⟨hlp, hle⟩) | hja
              · rw [if_neg (by omega)] at hv
                subst hv
                rcases hqq with hlq | ⟨hlq, hlm⟩
                · clear hja
                  go_wp2
                  all_goals first
                    | exact ⟨⟨j + 1, by omega, by go_num, by first | rfl | trivial⟩, by simp [intOf]; omega⟩
                    | (exfalso; omega)
                · obtain ⟨i2, hi2, hi2m⟩ : ∃ i2, j = q + i2 ∧ m ≤ i2 := ⟨j - q, by omega, hlm⟩
                  have hs2 : (j : Int) - (q : Int) = (i2 : Int) := by omega
                  clear hja hi2 hlm
                  go_wp2
                  all_goals first
                    | exact ⟨⟨j + 1, by omega, by go_num, by first | rfl | trivial⟩, by simp [intOf]; omega⟩
                    | (exfalso; omega)
              · rw [if_neg (by omega)] at hv
                subst hv
                obtain ⟨i1, hi1, hi1m⟩ : ∃ i1, j = p + i1 ∧ n ≤ i1 := ⟨j - p, by omega, hle⟩
                have hs1 : (j : Int) - (p : Int) = (i1 : Int) := by omega
                clear hja hi1 hle
                rcases hqq with hlq | ⟨hlq, hlm⟩
                · go_wp2
                  all_goals first
                    | exact ⟨⟨j + 1, by omega, by go_num, by first | rfl | trivial⟩, by simp [intOf]; omega⟩
                    | (exfalso; omega)
                · obtain ⟨i2, hi2, hi2m⟩ : ∃ i2, j = q + i2 ∧ m ≤ i2 := ⟨j - q, by omega, hlm⟩
                  have hs2 : (j : Int) - (q : Int) = (i2 : Int) := by omega
                  clear hi2 hlm
                  go_wp2
                  all_goals first
                    | exact ⟨⟨j + 1, by omega, by go_num, by first | rfl | trivial⟩, by simp [intOf]; omega⟩
                    | (exfalso; omega)
              · rw [if_pos hja] at hv
                obtain ⟨i1, hi1, hi1m⟩ : ∃ i1, j = p + i1 ∧ i1 < n := ⟨j - p, by omega, hja.2⟩
                have hs1 : (j : Int) - (p : Int) = (i1 : Int) := by omega
                have hp2 : ¬ (j : Int) < (p : Int) := by omega
                obtain ⟨g1, o1, rfl, _, hca⟩ := HA6.out.at' i1 (by rw [HN.out]; exact hi1m)
                have hvb : V la (j - p) = la[i1]'(by rw [HN.out]; exact hi1m) := by unfold V; rw [show j - p = i1 by omega, List.getElem?_eq_getElem]; rfl
                rw [hvb] at hv
                rw [← hv] at hca
                clear hja hi1 hvb hv
                rcases hqq with hlq | ⟨hlq, hlm⟩
                · go_wp2
                  all_goals first
                    | exact ⟨⟨j + 1, by omega, by go_num, by first | rfl | trivial⟩, by simp [intOf]; omega⟩
                    | (exfalso; omega)
                · obtain ⟨i2, hi2, hi2m⟩ : ∃ i2, j = q + i2 ∧ m ≤ i2 := ⟨j - q, by omega, hlm⟩
                  have hs2 : (j : Int) - (q : Int) = (i2 : Int) := by omega
                  clear hi2 hlm
                  go_wp2
                  all_goals first
                    | exact ⟨⟨j + 1, by omega, by go_num, by first | rfl | trivial⟩, by simp [intOf]; omega⟩
                    | (exfalso; omega)
          · obtain rfl : j = k := by omega
            go_wp2
            all_goals first
              | (exfalso; omega)
              | (go_ret; exact ⟨rfl, H6.out⟩)
end Trk
end Go.Proofs.YtafkccdbnfelkaaDoor
/- The laws' arguments, as they are read, opened to lists. -/
namespace Go.Proofs.YtafkccdbnfelkaaDoor
open Go.RowKit Go.MapKept Go.ChangeShapes Go.WideShapes Go.Deep
namespace Crc
section
variable {H : Type} {enc : TypeId × Value → H} {W : World} {fuel : Nat} {sp : Nat → Bool} {held : Bool}

theorem cells_u8 : Tryd.prog.cellsOf 5 = 1 := by kernel_rfl
theorem cells_sl : Tryd.prog.cellsOf 23 = 1 := by kernel_rfl

theorem u8_bounds {k : Int} (h : (Lit.int .u8 k).wf = true) : 0 ≤ k ∧ k < 256 := by
  have := bounds_u8 h
  omega
theorem u64_bounds {k : Int} (h : (Lit.int .u64 k).wf = true) : 0 ≤ k ∧ k < 18446744073709551616 := by
  have := bounds_u64 h
  omega

theorem cell_lt {b o : Nat} {v : Value} (h : W.cell? ⟨b, o, none⟩ = some v) : b < W.heap.size := by
  rcases Nat.lt_or_ge b W.heap.size with h1 | h1
  · exact h1
  · simp [World.cell?, Array.getElem?_eq_none h1] at h

/-- a slice whose elements take one cell each -/
theorem open_ones {t e : TypeId} {v : Value} {x : DataW H × List MemPlace} {α : Type} (d : α) (R : α → Value → Prop) (ht : Tryd.prog.underlying t = some (.slice e)) (h1 : Tryd.prog.cellsOf e = 1)
    (hR : ∀ n u y, DataW.trod enc Tryd.prog W 0 sp held n e [u] = some y → ∃ a, R a u)
    (h : DataW.trod enc Tryd.prog W 0 sp held fuel t [v] = some x) :
    ∃ (A : Option Addr) (l : List α) (c : Nat), v = .slice A l.length c ∧ l.length ≤ c ∧ l.length ≤ 9223372036854775807 ∧ ∀ j (hj : j < l.length), ∃ b o u, A = some ⟨b, o, none⟩ ∧ b < W.heap.size ∧ W.cell? ⟨b, o + j, none⟩ = some u ∧ R l[j] u := by
  rcases open_slice1 ht h1 h with ⟨hcs, _⟩ | ⟨a, len, cap, m, n, V, D, Pl, hcs, _, hl, hm, hmm, _, hi⟩
  · simp at hcs
    exact ⟨none, [], 0, hcs, by simp, by simp, fun j hj => absurd hj (by simp)⟩
  · simp at hcs
    have hlen : len ≤ 9223372036854775807 := by unfold maxLen at hm; omega
    have hjm : ∀ i, i < len → i < m := fun i hi => by rw [hmm]; split <;> omega
    have one : ∀ i, ∃ a' : α, i < len → R a' (V i) := fun i => by
      by_cases hil : i < len
      · obtain ⟨a', ha⟩ := hR _ _ _ (hi i (hjm i hil)).2
        exact ⟨a', fun _ => ha⟩
      · exact ⟨d, fun h => absurd h hil⟩
    obtain ⟨f, hf⟩ := Classical.skolem.1 one
    refine ⟨some a, (List.range len).map f, cap, by rw [List.length_map, List.length_range]; exact hcs, by rw [List.length_map, List.length_range]; exact hl, by rw [List.length_map, List.length_range]; exact hlen, fun j hj => ?_⟩
    rw [List.length_map, List.length_range] at hj
    have hc0 := (hi 0 (hjm 0 (by omega))).1
    obtain ⟨b, o, spot⟩ := a
    have hspot : spot = none := by simpa [Addr.add] using World.cell?_spot hc0
    subst hspot
    have hc := (hi j (hjm j hj)).1
    rw [add_plain] at hc
    refine ⟨b, o, V j, rfl, cell_lt hc, hc, ?_⟩
    rw [List.getElem_map, List.getElem_range]
    exact hf j hj

theorem open_bytes {v : Value} {x : DataW H × List MemPlace} (h : DataW.trod enc Tryd.prog W 0 sp held fuel 23 [v] = some x) : ∃ A l c, v = .slice A l.length c ∧ l.length ≤ c ∧ Bts W A l := by
  obtain ⟨A, l, c, e, hc, hl, ha⟩ := open_ones (α := Nat) 0 (fun k u => u = .int .u8 (k : Int) ∧ k < 256) Tryd.underlying23 cells_u8 (fun n u y hu => by
    obtain ⟨k, e, _, hw⟩ := DataW.trod_int Tryd.underlying5 hu
    simp at e
    have hb := u8_bounds hw
    obtain ⟨q, rfl⟩ := Int.eq_ofNat_of_zero_le hb.1
    exact ⟨q, e, by omega⟩) h
  refine ⟨A, l, c, e, hc, fun b hb => ?_, hl, fun j hj => ?_⟩
  · obtain ⟨j, hj, rfl⟩ := List.getElem_of_mem hb
    obtain ⟨_, _, _, _, _, _, _, h2⟩ := ha j hj
    exact h2
  · obtain ⟨b, o, u, e, h1, h2, rfl, _⟩ := ha j hj
    exact ⟨b, o, e, h1, h2⟩

theorem open_parts {v : Value} {x : DataW H × List MemPlace} (h : DataW.trod enc Tryd.prog W 0 sp held fuel 72 [v] = some x) : ∃ A ps c, v = .slice A ps.length c ∧ Pts W A ps := by
  obtain ⟨A, ps, c, e, hc, hl, ha⟩ := open_ones (α := Prt) ⟨none, 0, []⟩ (fun q u => u = .slice q.a q.l.length q.c ∧ Bts W q.a q.l) Tryd.underlying72 cells_sl (fun n u y hu => by
    obtain ⟨B, l, c, e, _, hb⟩ := open_bytes hu
    exact ⟨⟨B, c, l⟩, e, hb⟩) h
  refine ⟨A, ps, c, e, hl, fun j hj => ?_, fun j hj => ?_⟩
  · obtain ⟨b, o, u, e, h1, h2, rfl, _⟩ := ha j hj
    exact ⟨b, o, e, h1, h2⟩
  · obtain ⟨_, _, _, _, _, _, _, h2⟩ := ha j hj
    exact h2
end
end Crc

theorem laidOut_try : laidOutB Tryd.prog = true := by kernel_rfl
theorem ownKnob_none : ownKnob Tryd.prog.godebug = none := by kernel_rfl
end Go.Proofs.YtafkccdbnfelkaaDoor
/- A start that meets the rows' condition: the library's tables unicode/utf8.first and acceptRanges as they are laid; arguments that are names. -/
namespace Go.Proofs.YtafkccdbnfelkaaDoor
open Go.RowKit Go.MapKept Go.ChangeShapes Go.WideShapes Go.ChangeAt Go.Deep

abbrev lst : List (String × DataW Unit) := [("unicode/utf8.acceptRanges", Rows.laid_unicode_utf8_acceptRanges), ("unicode/utf8.first", Rows.laid_unicode_utf8_first)]

/-- a start with both tables meets the condition -/
theorem door_met (os : Os) (args : Array Value) : laidMetH Tryd.prog lst ((World.laidAll Tryd.prog os lst).forCall (fun _ _ => 0) ⟨#[], args, []⟩).memory := by
  rw [MakeChecks.laidMetH_plain _ _ _ (by kernel_rfl)]
  exact laidMet_laidAll _ (by kernel_rfl) (by kernel_rfl)

namespace Pat
section
variable {H : Type} {enc : TypeId × Value → H} {W : World} {fuel : Nat} {sp : Nat → Bool} {held : Bool}
theorem open_strs {v : Value} {x : DataW H × List MemPlace} (h : DataW.trod enc Tryd.prog W 0 sp held fuel 44 [v] = some x) : ∃ A l c, v = .slice A l.length c ∧ Txs W A l ∧ l.length ≤ c ∧ (A = none → c = 0) := by
  obtain ⟨A, l, c, e, hc, hl, ha⟩ := Crc.open_ones (α := ByteArray) ByteArray.empty (fun s u => u = .string s ∧ s.size ≤ 9223372036854775807) Tryd.underlying44 (by kernel_rfl) (fun n u y hu => by
    obtain ⟨s, e, _, hw⟩ := DataW.trod_string Tryd.underlying9 hu
    simp at e
    exact ⟨s, e, by unfold maxLen at hw; omega⟩) h
  refine ⟨A, l, c, e, ⟨fun s hs => ?_, hl, fun j hj => ?_⟩, hc, ?_⟩
  · obtain ⟨j, hj, rfl⟩ := List.getElem_of_mem hs
    obtain ⟨_, _, _, _, _, _, _, h2⟩ := ha j hj
    exact h2
  · obtain ⟨b, o, u, e, h1, h2, rfl, _⟩ := ha j hj
    exact ⟨b, o, e, h1, h2⟩
  · rintro rfl
    subst e
    rcases Go.Deep.open_slice1 Tryd.underlying44 (by kernel_rfl) h with ⟨hcs, _⟩ | ⟨a, len, cap, m, n, V, D, Pl, hcs, _⟩
    · simp at hcs
      omega
    · simp at hcs
end
end Pat
end Go.Proofs.YtafkccdbnfelkaaDoor
