/- Texts laid together: TrkRead, TrkDrop, TrkRm, TrkRmdir, TrkWf, TrkOrder, TrkSum, TrkSub, TrkRange, TrkCount, TrkIter, TrkList, PatRefJoin, TreSize, TrkSize, TreDo, TreSame, TrkAcc, TrkSta. -/
import Derived.Test.YtkhkcfbacnkcnaaDoorMs3
import Derived.Test.YtkhkcfbacnkcnaaDoorMs1
import Derived.LaidEqlPtr
import Derived.Sort.Walk0
import Derived.Sort.KeysCollected
import Derived.Maps.RangeWalk
import Derived.Laws.IdiomRangeMap
import Derived.Shelf.SlIter.Nil
import Derived.Shelf.SortM.Plain
import Derived.Shelf.SortM.SortNone
import Derived.Ground.GgzProg
import Derived.Ground.SlgmProg
import Derived.Test.YtkhkcfbacnkcnaaDoorProg
import Derived.Test.YtkhkcfbacnkcnaaDoorMs2
/- The program's copy of bytes; what it reads. -/
namespace Go.Proofs.YtkhkcfbacnkcnaaDoor
open Go.RowKit Go.MapKept
namespace Trk
open Tre (Nm Th fi isDirAt dirT goT goF setT dropT fileT addT zt datT wrT padT writeT rdT readT)
open Pat (Txs)

theorem bts_empty (w : World) (A : Option Addr) : Crc.Bts w A [] := ⟨fun _ h => by simp at h, by simp, fun j h => by simp at h⟩
theorem bts_sub {w : World} {g : Nat} {l : List Nat} (h : Crc.Bts w (some ⟨g, 0, none⟩) l) (a k : Nat) : Crc.Bts w (some ⟨g, a, none⟩) ((l.drop a).take k) := by
  refine ⟨fun b hb => h.byt b (List.mem_of_mem_drop (List.mem_of_mem_take hb)), ?_, fun j hj => ?_⟩
  · have := h.len
    rw [List.length_take, List.length_drop]
    omega
  · have hj' : a + j < l.length := by rw [List.length_take, List.length_drop] at hj; omega
    obtain ⟨b, o, e, hlt, hc⟩ := h.at' (a + j) hj'
    injection e with e
    injection e with e1 e2
    subst e1 e2
    refine ⟨g, a, rfl, hlt, ?_⟩
    rw [show a + j = 0 + (a + j) by omega, hc]
    simp

theorem news_bts {W : World} {ad : Addr} {l : List Nat} (h : Crc.Bts W (some ad) l) : ∀ j u, (Crc.u8s l)[j]? = some u → W.cell? (ad.add j) = some u := by
  intro j u hu
  have hj : j < l.length := by
    have := (List.getElem?_eq_some_iff.1 hu).1
    simpa [Crc.u8s] using this
  obtain ⟨b, o, e, _, hc⟩ := h.at' j hj
  injection e with e
  subst e
  rw [Go.WideShapes.add_plain, hc, ← hu]
  simp [Crc.u8s, List.getElem?_eq_getElem hj]
theorem run_copy_own {W : World} {ad : Addr} {l : List Nat} (n c : Nat) (h : Crc.Bts W (some ad) l) (hn : l.length = n) (hl : n ≤ 268435456) :
    ∃ (G : Option Addr) (gc : Nat) (w' : World), (Builtin.append_ #[23, 23] 23 #[.slice (some ⟨W.heap.size, 0, none⟩) 0 0, .slice (some ad) n c]).run Tryd.prog (W.alloc (.cells #[] 5)) = .ok (.slice G n gc) w' ∧ w'.ownsRow W.heap.size 5 1 (.slice G n gc) n (Crc.u8s l) ∧ Below W.heap.size W w' := by
  obtain ⟨i0, hi0, hz0, hz1, hz2⟩ := info_parts Crc.u8_info
  have hown : (W.alloc (.cells #[] 5)).ownsRow W.heap.size 5 1 (.slice (some ⟨W.heap.size, 0, none⟩) 0 0) 0 [] := World.ownsRow_made W #[] 0 (Nat.le_refl _) (by unfold maxLen; omega) rfl
  have hb := (Below.refl W.heap.size W).alloc (Nat.le_refl _) (.cells #[] 5)
  obtain ⟨v', w', hr, h2, h3, _, _⟩ := run_append_own_at (P := Tryd.prog) (W.alloc (.cells #[] 5)) W.heap.size 23 23 5 i0 (.int .u8 0) 1 1 Tryd.underlying23 hi0 hz0 hz1 hz2 rfl (by decide) _ 0 [] hown ad n c (Crc.u8s l) (by simp [Crc.u8s, hn]) (news_bts (h.alloc _)) (Crc.u8s_one l) (by unfold maxLen; omega) (by omega) (by simp)
  rw [Nat.zero_add, List.nil_append] at h2
  obtain ⟨G, gc, rfl⟩ := Crc.row_slice h2
  exact ⟨G, gc, w', hr, h2, hb.grown h3 (by simp) (fun k hk => Crc.row_base_lt hown hk)⟩

/-- new bytes that are answered -/
def NewR (w : World) (l : List Nat) (e : Ending) (w' : World) : Prop := ∃ G gc, e = .returned (.slice G l.length gc) ∧ w'.ownsRow w.heap.size 5 1 (.slice G l.length gc) l.length (Crc.u8s l) ∧ Below w.heap.size w w'
set_option maxRecDepth 100000 in
set_option maxHeartbeats 1000000 in
theorem bclone_any (w : World) (A : Option Addr) (n c : Nat) (l : List Nat) (h : Crc.Bts w A l) (hn : l.length = n) (hl : n ≤ 268435456) :
    Calls Tryd.prog 31 #[.slice A n c] w (NewR w l) := by
  have hnil : ∀ W a n c, (binOp .eql 23 (.slice a n c) (.slice none 0 0)).run Tryd.prog W = .ok (.bool a.isNone) W := fun W a n c => by
    exact Lib.run_eql_slice_nil W _ _ a n c 0 0 Tryd.underlying23
  cases A with
  | none =>
    have hl0 : l = [] := by
      cases l with
      | nil => rfl
      | cons b l =>
        obtain ⟨_, _, e, _⟩ := h.at' 0 (by simp)
        cases e
    subst hl0
    have HR := Lib.hid (show NewR w [] (.returned (.slice none 0 0)) w from ⟨none, 0, rfl, World.ownsRow_nil _ _ _ _, Below.refl _ _⟩)
    clear h hn
    go_enter Tryd.func31, Tryd.ntmps31
    go_wp2
    go_ret
    exact HR.out
  | some ad =>
    obtain ⟨G, gc, w', hap, ho, hb⟩ := run_copy_own n c h hn hl
    have HR := Lib.hid (show NewR w l (.returned (.slice G n gc)) w' from ⟨G, gc, by rw [hn], by rw [hn]; exact ho, hb⟩)
    have HAP := Lib.hid hap
    clear h hn ho hb hap
    go_enter Tryd.func31, Tryd.ntmps31
    go_wp2_with (at_builtin; refine Pat.wpList_append_run rfl (.tmp 5) (.tmp 6) 23 rfl _ _ _ rfl rfl HAP.out ?_)
    go_ret
    exact HR.out

theorem NewR.drewN {w w' : World} {l : List Nat} {e : Ending} {j : Nat} (h : NewR (w.drewN j) l e w') : NewR w l e w' := by
  obtain ⟨G, gc, h1, h2, h3⟩ := h
  exact ⟨G, gc, h1, h2, ⟨h3.os, h3.tape, h3.output, h3.size, h3.block⟩⟩
theorem own_low {w : World} {B B' n : Nat} {t : TypeId} {v : Value} {xs : List Value} (h : w.ownsRow B t 1 v n xs) (hB : B' ≤ B) : w.ownsRow B' t 1 v n xs := by
  rcases h with ⟨h1, h2⟩
  refine ⟨h1, ?_⟩
  rcases h2 with h0 | ⟨g, cap, cur, e, hg, hr⟩
  · exact .inl h0
  · exact .inr ⟨g, cap, cur, e, Nat.le_trans hB hg, hr⟩
/-- what is read -/
def rdl (l : List Nat) (a k : Nat) : List Nat := (l.drop a).take k
set_option maxRecDepth 100000 in
set_option maxHeartbeats 1000000 in
theorem tread_any (w : World) (N : Nat) (x : Nd) (f : ByteArray → Option Nat) (d : Bool) (s : ByteArray) (a k : Nat) (h : Nod w N x f d s) (hs : s.size ≤ 268435456) (ha : a ≤ 9223372036854775807) (hk : k ≤ 9223372036854775807) :
    Calls Tryd.prog 30 #[.pointer (some ⟨x.b, 0, none⟩), .int .i64 (a : Int), .int .i64 (k : Int)] w (NewR w (rdl (Crc.tx s) a k)) := by
  have hc1 := h.c1
  obtain ⟨n, hn⟩ : ∃ n, n = s.size := ⟨_, rfl⟩
  have hrow := h.row
  have hB := Crc.own_bts h.row (tx_byt s) (by omega)
  have hlen := Crc.tx_len s
  rw [← hn] at hc1 hrow hlen hs
  generalize Crc.tx s = l at *
  clear h hn
  cases hA : x.A with
  | none =>
    rw [hA] at hc1 hrow
    have hn0 : n = 0 ∧ x.c = 0 := by
      rcases hrow.2 with ⟨e, h⟩ | ⟨_, _, _, e, _⟩
      · simp only [Value.slice.injEq] at e
        exact ⟨h, e.2.2⟩
      · simp at e
    obtain ⟨rfl, hc0⟩ := hn0
    rw [hc0] at hc1
    have hl0 : l = [] := List.eq_nil_of_length_eq_zero hlen
    have HC := Lib.hid (fun j => bclone_any (w.drewN j) none 0 0 [] (bts_empty _ none) rfl (by omega))
    have HL := Lib.hid (show rdl l a k = [] by rw [hl0]; simp [rdl])
    clear hrow hB hl0 hlen
    have hmin : min (a : Int) 0 = 0 := by omega
    have hmin2 : min (k : Int) 0 = 0 := by omega
    go_enter Tryd.func30, Tryd.ntmps30
    go_wp2_with fail
    go_quiet (fail)
    go_wp2_with fail
    refine (HC.out _).mono ?_
    rintro e w' hr
    have HR := Lib.hid (HL.out ▸ hr.drewN : NewR w (rdl l a k) e w')
    clear hr
    obtain ⟨G, gc, rfl, _, _⟩ := HR.out
    go_wp2
    go_ret
    exact HR.out
  | some ad =>
    rw [hA] at hc1 hrow hB
    obtain ⟨g, rfl, hnc⟩ : ∃ g, ad = ⟨g, 0, none⟩ ∧ n ≤ x.c := by
      rcases hrow.2 with ⟨e, h⟩ | ⟨g, cap, cur, e, _, hh, h1, _, hq, _⟩
      · simp at e
      · simp only [Value.slice.injEq] at e
        obtain ⟨e1, _, e3⟩ := e
        injection e1 with e1
        rw [← e3] at h1
        exact ⟨g, e1, h1⟩
    obtain ⟨p, hp⟩ : ∃ p, p = min a n := ⟨_, rfl⟩
    obtain ⟨q, hq⟩ : ∃ q, q = min k (n - p) := ⟨_, rfl⟩
    have hmin : min (a : Int) (n : Int) = (p : Int) := by omega
    have hmin2 : min (k : Int) ((n - p : Nat) : Int) = (q : Int) := by omega
    have hpn : p ≤ n := by omega
    have hqn : q ≤ n - p := by omega
    have hrd : (l.drop p).take q = rdl l a k := by
      unfold rdl
      rw [hp, hq, hp]
      by_cases h : a ≤ n
      · rw [Nat.min_eq_left h]
        by_cases h' : k ≤ n - a
        · rw [Nat.min_eq_left h']
        · rw [Nat.min_eq_right (by omega), List.take_of_length_le (by rw [List.length_drop]; omega), List.take_of_length_le (by rw [List.length_drop]; omega)]
      · rw [show min k (n - min a n) = 0 by omega, List.take_zero, List.drop_of_length_le (show l.length ≤ a by omega), List.take_nil]
    have hql : (rdl l a k).length = q := by rw [← hrd, List.length_take, List.length_drop]; omega
    have HC1 := Lib.hid (fun j => bclone_any (w.drewN j) (some ⟨g, p, none⟩) q (x.c - p) (rdl l a k) (hrd ▸ bts_sub (w := w.drewN j) ⟨hB.byt, hB.len, hB.at'⟩ p q) hql (by omega))
    have HC2 := Lib.hid (fun (h : x.c ≤ p) j => bclone_any (w.drewN j) (some ⟨g, 0, none⟩) q 0 (rdl l a k) (by
      have : rdl l a k = [] := List.eq_nil_of_length_eq_zero (by omega)
      rw [this]
      exact bts_empty _ _) hql (by omega))
    clear hrow hB hlen hp hq hrd hql
    have fin : ∀ (e : Ending) (w' : World) (j : Nat), NewR (w.drewN j) (rdl l a k) e w' → NewR w (rdl l a k) e w' := fun e w' j h => h.drewN
    have FIN := Lib.hid fin
    clear fin
    go_enter Tryd.func30, Tryd.ntmps30
    go_wp2_with fail
    go_quiet (fail)
    go_wp2_with fail
    all_goals first
      | refine (HC1.out _).mono ?_
      | refine (HC2.out (by omega) _).mono ?_
    all_goals
      rintro e w' hr
      have HR := Lib.hid (FIN.out _ _ _ hr)
      clear hr
      obtain ⟨G, gc, rfl, _, _⟩ := HR.out
      go_wp2
      go_ret
      exact HR.out

set_option maxRecDepth 100000 in
set_option maxHeartbeats 1000000 in
theorem rd_any (w : World) (N b0 : Nat) (t : List Th) (L : Nm → Nd) (p : ByteArray) (x y : Int) (hM : Mem w N t L) (hb : (L []).b = b0) (hW : Wf t) (hp : p.size < 4294967281) (hx : x ≤ 9223372036854775807) (hy : y ≤ 9223372036854775807) :
    Calls Tryd.prog 21 #[.pointer (some ⟨b0, 0, none⟩), .string p, .int .i64 x, .int .i64 y] w fun e w' => ∃ (G : Option Addr) (n gc : Nat), e = .returned (.tuple #[.slice G n gc, .int .i64 (readT t p x y).2]) ∧ (Crc.tx (readT t p x y).1).length = n ∧ w'.ownsRow w.heap.size 5 1 (.slice G n gc) n (Crc.u8s (Crc.tx (readT t p x y).1)) ∧ Below w.heap.size w w' := by
  have HM := Lib.hid hM
  clear hM
  go_enter Tryd.func21, Tryd.ntmps21
  go_wp2_with fail
  refine (fileAt_any w N b0 t L p HM.out hb hp).mono ?_
  rintro e w1 ⟨hf, hb1⟩
  have HB1 := Lib.hid hb1
  have HM1 := Lib.hid (HM.out.keep hb1)
  clear hb1
  rcases hf with ⟨he, rfl⟩ | ⟨n, i, s, hf, rfl⟩
  · have HZ := Lib.hid (show readT t p x y = (⟨#[]⟩, (fileT t p).2) by unfold Tre.readT; rw [if_pos he])
    generalize hg : (fileT t p).2 = g at *
    clear hg
    go_wp2
    refine bodyPost_ret (v := .tuple #[.slice none 0 0, .int .i64 g]) ?_ rfl ⟨none, 0, 0, by rw [HZ.out], by rw [HZ.out]; rfl, by rw [HZ.out]; exact World.ownsRow_nil _ _ _ _, HB1.out⟩
    simp [results, Tryd.results21, go_sem]
  · obtain ⟨f1, f2, f3⟩ := fileT_file hf
    have HF := Lib.hid hf
    have HZ1 := Lib.hid (show readT t p x y = if x < 0 ∨ y < 0 then (⟨#[]⟩, 9) else (rdT s x y, 0) by unfold Tre.readT; rw [if_neg (fun h => h f3), f1])
    clear f1 f2 f3 hf
    by_cases hxy : x < 0 ∨ y < 0
    · have HZ := Lib.hid (HZ1.out.trans (if_pos hxy))
      by_cases hx0 : x < 0
      · clear hxy
        generalize L n = z at *
        go_wp2
        refine bodyPost_ret (v := .tuple #[.slice none 0 0, .int .i64 9]) ?_ rfl ⟨none, 0, 0, by rw [HZ.out], by rw [HZ.out]; rfl, by rw [HZ.out]; exact World.ownsRow_nil _ _ _ _, HB1.out⟩
        simp [results, Tryd.results21, go_sem]
      · have hy0 : y < 0 := by omega
        clear hxy
        generalize L n = z at *
        go_wp2
        refine bodyPost_ret (v := .tuple #[.slice none 0 0, .int .i64 9]) ?_ rfl ⟨none, 0, 0, by rw [HZ.out], by rw [HZ.out]; rfl, by rw [HZ.out]; exact World.ownsRow_nil _ _ _ _, HB1.out⟩
        simp [results, Tryd.results21, go_sem]
    · obtain ⟨a, rfl⟩ : ∃ a : Nat, x = (a : Int) := ⟨x.toNat, by omega⟩
      obtain ⟨k, rfl⟩ : ∃ k : Nat, y = (k : Int) := ⟨y.toNat, by omega⟩
      have hx0 : ¬ (a : Int) < 0 := by omega
      have hy0 : ¬ (k : Int) < 0 := by omega
      have HZ := Lib.hid (HZ1.out.trans (if_neg hxy))
      have HRD := Lib.hid (show Crc.tx (rdT s (a : Int) (k : Int)) = rdl (Crc.tx s) a k from by
        unfold Tre.rdT rdl
        have e1 : Crc.tx (s.extract (a : Int).toNat s.size) = (Crc.tx s).drop a := by
          rw [Ent.tx_extract]
          exact List.take_of_length_le (by rw [List.length_drop, Crc.tx_len]; exact Nat.le_refl _)
        have e2 : (s.extract (a : Int).toNat s.size).size = s.size - a := by
          rw [← Crc.tx_len, e1, List.length_drop, Crc.tx_len]
        by_cases h1 : (s.size : Int) ≤ (a : Int)
        · rw [if_pos h1, List.drop_of_length_le (by rw [Crc.tx_len]; omega), List.take_nil]
          rfl
        · rw [if_neg h1, e2]
          by_cases h2 : (k : Int) < ((s.size - a : Nat) : Int)
          · rw [if_pos h2, Ent.tx_extract, e1]
            rfl
          · rw [if_neg h2, e1]
            exact (List.take_of_length_le (by rw [List.length_drop, Crc.tx_len]; omega)).symm)
      have HN := Lib.hid (HM1.out.nod _ _ _ HF.out.at')
      have HTR := Lib.hid (tread_any w1 N (L n) (kb t L n) false s a k HN.out (hW.fsize HF.out.at') (by omega) (by omega))
      clear hxy
      generalize L n = z at *
      go_wp2_with fail
      refine HTR.out.mono ?_
      rintro e w2 ⟨G, gc, rfl, ho, hb2⟩
      obtain ⟨m, hm⟩ : ∃ m, m = (rdl (Crc.tx s) a k).length := ⟨_, rfl⟩
      rw [← hm] at ho ⊢
      have HO := Lib.hid ho
      have HMM := Lib.hid hm
      have HB2 := Lib.hid (HB1.out.trans (hb2.mono HB1.out.size))
      clear ho hb2 hm
      go_wp2
      refine bodyPost_ret (v := .tuple #[.slice G m gc, .int .i64 0]) ?_ rfl ⟨G, m, gc, by rw [HZ.out], by rw [HZ.out, HRD.out, HMM.out], by rw [HZ.out, HRD.out]; exact own_low HO.out HB1.out.size, HB2.out⟩
      simp [results, Tryd.results21, go_sem]
end Trk
end Go.Proofs.YtkhkcfbacnkcnaaDoor
/- The program's tree, a thing fewer: drop, Unlink, Rmdir. -/
namespace Go.Proofs.YtkhkcfbacnkcnaaDoor
open Go.RowKit Go.MapKept
namespace Trk
open Tre (Nm Th fi isDirAt dirT goT goF setT dropT fileT addT zt datT unlinkT rmdirT kidT kidL)
open Pat (Txs)

theorem wf_take {t : List Th} (hW : Wf t) {n : Nm} : ∀ (f k : Nat) (v : Bool × ByteArray), n.length - k = f → k ≤ n.length → T t (n.take k) = some v → ∀ j, j < k → ∃ s, T t (n.take j) = some (true, s)
  | f, 0, v, _, _, _, j, hj => absurd hj (Nat.not_lt_zero j)
  | f, k + 1, v, hf, hk, hv, j, hj => by
    have e : n.take (k + 1) = n.take k ++ [n[k]] := List.take_succ_eq_append_getElem (by omega)
    rw [e] at hv
    obtain ⟨s, hs⟩ := hW.up _ _ _ hv
    rcases Nat.lt_or_ge j k with h | h
    · exact wf_take hW (f + 1) k _ (by omega) (by omega) hs j h
    · obtain rfl : j = k := by omega
      exact ⟨s, hs⟩
theorem rest_wf {t : List Th} {n : Nm} (h : ∀ j, j < n.length → ∃ s, T t (n.take j) = some (true, s)) {v : Bool × ByteArray} (hv : T t n = some v) : ∀ (f k : Nat), n.length - k = f → k ≤ n.length → rest t n k true = 0
  | 0, k, hf, hk => by
    obtain rfl : k = n.length := by omega
    exact rest_end
  | f + 1, k, hf, hk => by
    rcases Nat.lt_or_ge (k + 1) n.length with hlt | hge
    · obtain ⟨s, hs⟩ := h (k + 1) hlt
      rw [rest_some (by omega) hs]
      exact rest_wf h hv f (k + 1) (by omega) (by omega)
    · have e : n.take (k + 1) = n := List.take_of_length_le hge
      rw [rest_some (by omega) (e.symm ▸ hv), show k + 1 = n.length by omega]
      exact rest_end
theorem Wf.go {t : List Th} (hW : Wf t) {n : Nm} {v : Bool × ByteArray} (hv : T t n = some v) : goT t n = 0 := by
  rw [goT_rest]
  exact rest_wf (fun j hj => wf_take hW 0 n.length v (by omega) (Nat.le_refl _) (by rw [List.take_length]; exact hv) j hj) hv n.length 0 (by omega) (by omega)
theorem Mem.drop {w w' : World} {N : Nat} {t : List Th} {L : Nm → Nd} (h : Mem w N t L) (hW : Wf t) {p : Nm} {nm : ByteArray} {s : ByteArray} {v : Bool × ByteArray} {i g : Nat} {D : DataW Unit} (hp : T t p = some (true, s)) (hn : T t (p ++ [nm]) = some v) (hi : fi t (p ++ [nm]) = some i)
    (hg : (L p).m = some g) (hA : Ask w' g N (fun x => if x = nm then none else kb t L p x) D) (hgr : w.grownBy w' (some g)) : Mem w' N (dropT t i) L ∧ Chg (Fp t L) w w' ∧ ∀ i', Fp (dropT t i) L i' → Fp t L i' := by
  have hT : ∀ q, T (dropT t i) q = if q = p ++ [nm] then none else T t q := T_drop hW.once (by simp) hi
  have hgp : g ∈ own (L p) := own_mem.2 (.inr (.inl hg))
  have hgF : Fp t L g := ⟨p, _, hp, hgp⟩
  refine ⟨?_, Chg.grown hgr hgF, ?_⟩
  · refine h.step (fun q => q = p ∨ q = p ++ [nm]) (Nat.le_refl N) (fun q hq => ?_) (fun q hq => rfl) (fun q u hu hq i' hi' => ?_) (fun q x u hu hq => ?_) (fun q d' s' hq hv => ?_) (fun q u hq hv => ?_) (fun q r u1 u2 hq hv hu hne' i' hi' => ?_)
    · rw [hT, if_neg (fun e => hq (.inr e))]
    · exact hgr.block i' (h.lt ⟨q, u, hu, hi'⟩) (fun e => by
        injection e with e
        exact h.apart q p u _ hu hp (fun e' => hq (.inl e')) i' hi' (e ▸ hgp))
    · unfold kb
      rw [hT, if_neg (app_ne (fun e => hq (.inl e)))]
    · rcases hq with rfl | rfl
      · rw [hT, if_neg (fun e => app_self e.symm), hp] at hv
        injection hv with hv
        injection hv with h1 h2
        subst h1 h2
        have hN := h.nod _ _ _ hp
        have ho := h.one _ _ hp
        have hbg : (L q).b ≠ g := fun e => by
          unfold own at ho
          rw [hg] at ho
          simp [e] at ho
        refine ⟨?_, ?_, ?_⟩
        · obtain ⟨ty, hb⟩ := hN.box
          exact ⟨ty, (hgr.block _ hN.blt (fun e => hbg (by injection e))).trans hb⟩
        · refine hN.row.kept hgr ?_
          cases hA' : (L q).A with
          | none => exact .inl rfl
          | some a =>
            refine .inr (fun e => ?_)
            have : a.block = g := by simpa [Value.ownBlock] using e
            unfold own at ho
            rw [hg, hA'] at ho
            simp [this] at ho
        · rw [hg]
          have hf : (fun x => if x = nm then none else kb t L q x) = kb (dropT t i) L q := by
            funext x
            unfold kb
            rw [hT]
            by_cases e : x = nm
            · subst e
              rw [if_pos rfl, if_pos rfl]
              rfl
            · rw [if_neg e, if_neg (fun e' => e (app_inj e'))]
          rw [← hf]
          exact ⟨D, hA⟩
      · rw [hT, if_pos rfl] at hv
        cases hv
    · rcases hq with rfl | rfl
      · exact h.one _ _ hp
      · rw [hT, if_pos rfl] at hv
        cases hv
    · rcases hq with rfl | rfl
      · rw [hT] at hu
        by_cases e : r = q ++ [nm]
        · rw [if_pos e] at hu
          cases hu
        · rw [if_neg e] at hu
          exact h.apart q r _ u2 hp hu (fun e => hne' e.symm) i' hi'
      · rw [hT, if_pos rfl] at hv
        cases hv
  · rintro i' ⟨q, u, hu, hi'⟩
    rw [hT] at hu
    by_cases e : q = p ++ [nm]
    · rw [if_pos e] at hu
      cases hu
    · rw [if_neg e] at hu
      exact ⟨q, u, hu, hi'⟩

set_option maxRecDepth 100000 in
set_option maxHeartbeats 1000000 in
theorem drop_any (w : World) (N b0 i : Nat) (t : List Th) (L : Nm → Nd) (p : ByteArray) (m : Nm) (s : ByteArray) (v : Bool × ByteArray) (hM : Mem w N t L) (hb : (L []).b = b0) (hW : Wf t) (hp : p.size < 4294967281)
    (hs : Pat.spl p = some (m ++ [s])) (hv : T t (m ++ [s]) = some v) (hi : fi t (m ++ [s]) = some i) :
    Calls Tryd.prog 29 #[.pointer (some ⟨b0, 0, none⟩), .string p] w fun e w' => e = .returned (.tuple #[]) ∧ TrkR w N t L (dropT t i) w' := by
  have HM := Lib.hid hM
  have HS := Lib.hid hs
  have HV := Lib.hid hv
  have HI := Lib.hid hi
  clear hM hs hv hi
  go_enter Tryd.func29, Tryd.ntmps29
  go_wp2_with fail
  refine (Pat.split_any w p hp).mono ?_
  rintro e w1 ⟨hb1, h1⟩
  have HB1 := Lib.hid hb1
  have HM1 := Lib.hid (HM.out.keep hb1)
  clear hb1
  rcases h1 with ⟨l, A, c, hs, rfl, hc, ht⟩ | ⟨hs, rfl⟩
  · obtain rfl : m ++ [s] = l := by rw [HS.out] at hs; injection hs
    have HIN := Lib.hid (spl_is hs)
    have HIm := Lib.hid (show Pat.IsNames m from ⟨by have := HIN.out.1; simp at this; omega, fun z hz => HIN.out.2 z (by simp [hz])⟩)
    have hss := right_len (HIN.out.2 s (by simp))
    have HT := Lib.hid ht
    obtain ⟨k, hk⟩ : ∃ k, k = m.length := ⟨_, rfl⟩
    obtain ⟨n, hn⟩ : ∃ n, n = (m ++ [s]).length := ⟨_, rfl⟩
    rw [← hn]
    have hml : k ≤ 1000000 := by have := HIm.out.1; omega
    have HPAR := Lib.hid (Pat.parent_yes w1 A c n k m s HT.out hk.symm (by rw [hn, hk]; simp) hml)
    have HKL := Lib.hid hk
    clear hs hc ht hn hk
    go_wp2_with fail
    refine HPAR.out.mono ?_
    rintro e w2 ⟨g, rfl, _, ho, hb2⟩
    have HB2 := Lib.hid (HB1.out.trans (hb2.mono HB1.out.size))
    have HM2 := Lib.hid (HM.out.keep HB2.out)
    have HO := Lib.hid (Pat.Own.txs ho (fun z hz => by have := (HIm.out.2 z hz).1.2; rw [Crc.tx_len] at this; omega) (by have := HKL.out; omega))
    have HFOL := Lib.hid (follow_any w2 N b0 k k t L (some ⟨g, 0, none⟩) m HM2.out hb HO.out HIm.out HKL.out.symm)
    clear ho hb2 HT HPAR
    go_wp2_with fail
    refine HFOL.out.mono ?_
    rintro e w3 ⟨rfl, rfl⟩
    obtain ⟨s', hup⟩ := hW.up _ _ _ HV.out
    have HUP := Lib.hid hup
    rw [gv_yes (hW.go hup), hW.go hup]
    unfold pv
    have HN := Lib.hid (HM2.out.nod _ _ _ hup)
    have hc2 := HN.out.c2
    have hkd := HN.out.map
    cases hm : (L m).m with
    | none =>
      rw [hm] at hkd
      have := hkd s
      unfold kb at this
      rw [HV.out] at this
      cases this
    | some q =>
      rw [hm] at hkd hc2
      obtain ⟨D, hD⟩ := hkd
      obtain ⟨w4, D', hdel, hA, hgr⟩ := hD.strike s hss 0
      have HR := Lib.hid (show TrkR w N t L (dropT t i) w4 from by
        obtain ⟨q1, q2, q3⟩ := HM2.out.drop hW HUP.out HV.out HI.out hm hA hgr
        exact TrkR.after HB2.out ⟨q2, L, q1.mono (Nat.le_succ N), rfl, fun i' hi' => .inl (q3 i' hi')⟩)
      clear hup hA hgr hD
      generalize L m = z at *
      go_wp2
      go_end0
      exact ⟨rfl, HR.out⟩
  · rw [HS.out] at hs
    cases hs
end Trk
end Go.Proofs.YtkhkcfbacnkcnaaDoor
/- The program's Unlink, Rmdir. -/
namespace Go.Proofs.YtkhkcfbacnkcnaaDoor
open Go.RowKit Go.MapKept
namespace Trk
open Tre (Nm Th fi isDirAt dirT goT goF setT dropT fileT addT zt datT unlinkT rmdirT kidT kidL fv)
open Pat (Txs)

theorem names_last {n : Nm} (h : n ≠ []) : ∃ m s, n = m ++ [s] := by
  rcases List.eq_nil_or_concat n with h' | ⟨m, s, h'⟩
  · exact absurd h' h
  · exact ⟨m, s, by rw [h', List.concat_eq_append]⟩

section
variable (w : World) (N b0 : Nat) (t : List Th) (L : Nm → Nd) (p : ByteArray) (hM : Mem w N t L) (hb : (L []).b = b0) (hW : Wf t) (hp : p.size < 4294967281)
include hM hb hW hp
set_option maxRecDepth 100000 in
set_option maxHeartbeats 1000000 in
theorem unlink_any : Calls Tryd.prog 89 #[.pointer (some ⟨b0, 0, none⟩), .string p] w fun e w' => e = .returned (.int .i64 (unlinkT t p).2) ∧ TrkR w N t L (unlinkT t p).1 w' := by
  have HM := Lib.hid hM
  clear hM
  go_enter Tryd.func89, Tryd.ntmps89
  go_wp2_with fail
  refine (fileAt_any w N b0 t L p HM.out hb hp).mono ?_
  rintro e w1 ⟨hf, hb1⟩
  have HB1 := Lib.hid hb1
  have HM1 := Lib.hid (HM.out.keep hb1)
  clear hb1
  rcases hf with ⟨he, rfl⟩ | ⟨n, i, s, hf, rfl⟩
  · have HZ := Lib.hid (show unlinkT t p = (t, (fileT t p).2) by unfold Tre.unlinkT; rw [if_pos he])
    generalize hg : (fileT t p).2 = g at *
    clear hg
    go_wp2
    refine bodyPost_ret (v := .int .i64 g) ?_ rfl ⟨by rw [HZ.out], by rw [HZ.out]; exact TrkR.same HM.out HB1.out⟩
    simp [results, Tryd.results89, go_sem]
  · obtain ⟨f1, f2, f3⟩ := fileT_file hf
    have HZ := Lib.hid (show unlinkT t p = (dropT t i, 0) by unfold Tre.unlinkT; rw [if_neg (fun h => h f3), f2])
    obtain ⟨m, z, rfl⟩ := names_last hf.ne
    have HD := Lib.hid (drop_any w1 N b0 i t L p m z _ HM1.out hb hW hp hf.spl hf.at' hf.fi)
    clear f1 f2 f3 hf
    generalize L (m ++ [z]) = y at *
    go_wp2_with fail
    refine HD.out.mono ?_
    rintro e w2 ⟨rfl, hr⟩
    have HR := Lib.hid (TrkR.after HB1.out hr)
    clear hr
    go_wp2
    refine bodyPost_ret (v := .int .i64 0) ?_ rfl ⟨by rw [HZ.out], by rw [HZ.out]; exact HR.out⟩
    simp [results, Tryd.results89, go_sem]
end

/-- a directory's names -/
theorem kidL_mem {t : List Th} (ht : Once t) {n : Nm} {x : ByteArray} : x ∈ kidL t n ↔ (T t (n ++ [x])).isSome = true := by
  unfold Tre.kidL
  rw [List.mem_map]
  constructor
  · rintro ⟨y, hy, rfl⟩
    obtain ⟨hy, hc⟩ := List.mem_filter.1 hy
    obtain ⟨h1, h2⟩ := of_decide_eq_true hc
    have e : n ++ [y.1.getD n.length ByteArray.empty] = y.1 := by
      rw [← h2]
      have hlt : n.length < y.1.length := by omega
      rw [List.getD_eq_getElem?_getD, List.length_take, Nat.min_eq_left (by omega), List.getElem?_eq_getElem hlt, Option.getD_some, ← List.take_succ_eq_append_getElem hlt, List.take_of_length_le (by omega)]
    rw [e, mem_T ht hy (fun h0 => by rw [h0] at h1; simp at h1)]
    rfl
  · intro h
    obtain ⟨v, hv⟩ := Option.isSome_iff_exists.1 h
    have hm := T_mem (by simp) hv
    refine ⟨_, List.mem_filter.2 ⟨hm, decide_eq_true (by simp)⟩, by simp⟩
theorem kidL_once {t : List Th} (ht : Once t) (n : Nm) : (kidL t n).Nodup := by
  unfold Tre.kidL
  refine List.pairwise_map.2 ?_
  have h1 : (t.filter fun x => decide (x.1.length = n.length + 1 ∧ x.1.take n.length = n)).Pairwise (fun x y => x.1 ≠ y.1) := (List.pairwise_map.1 ht).sublist List.filter_sublist
  refine h1.imp_of_mem fun {a b} ha hb hne e => hne ?_
  have key : ∀ y ∈ (t.filter fun x => decide (x.1.length = n.length + 1 ∧ x.1.take n.length = n)), y.1 = n ++ [y.1.getD n.length ByteArray.empty] := fun y hy => by
    obtain ⟨h1, h2⟩ := of_decide_eq_true (List.mem_filter.1 hy).2
    have hlt : n.length < y.1.length := by omega
    conv => rhs; rw [← h2]
    rw [List.getD_eq_getElem?_getD, List.length_take, Nat.min_eq_left (by omega), List.getElem?_eq_getElem hlt, Option.getD_some, ← List.take_succ_eq_append_getElem hlt, List.take_of_length_le (by omega)]
  rw [key a ha, key b hb, e]
theorem kid_size {t : List Th} (hW : Wf t) {n : Nm} {x : ByteArray} (h : (T t (n ++ [x])).isSome = true) : x.size ≤ maxLen := by
  obtain ⟨v, hv⟩ := Option.isSome_iff_exists.1 h
  have hm := T_mem (by simp) hv
  exact right_len ((hW.nm _ hm).2.2 x (by simp))
theorem kidT_len (t : List Th) (n : Nm) : (kidT t n).length = (kidL t n).length := by
  rw [Tre.kidT_eq]
  exact Tre.sorted_len _ _
/-- how many names a directory's map has -/
theorem Nod.kids {w : World} {N : Nat} {t : List Th} {L : Nm → Nd} {n : Nm} {d : Bool} {s : ByteArray} {x : Nd} (hW : Wf t) (h : Nod w N x (kb t L n) d s) (ty : TypeId) :
    (Builtin.len_ #[43] ty #[.map x.m]).run Tryd.prog w = .ok (.int .i64 ((kidL t n).length : Int)) w := by
  have hk := h.map
  cases hm : x.m with
  | none =>
    rw [hm] at hk
    have h0 : kidL t n = [] := by
      cases hl : kidL t n with
      | nil => rfl
      | cons y r =>
        have := (kidL_mem hW.once).1 (show y ∈ kidL t n by rw [hl]; simp)
        have hy := hk y
        unfold kb at hy
        cases hT : T t (n ++ [y]) with
        | none => rw [hT] at this; cases this
        | some v => rw [hT] at hy; cases hy
    rw [h0]
    exact Maps.len_nil Tryd.underlying43 ty
  | some g =>
    rw [hm] at hk
    obtain ⟨D, hD⟩ := hk
    obtain ⟨_, hsz⟩ := hD.keys (kidL_once hW.once n) (fun y => by rw [kidL_mem hW.once]; unfold kb; cases T t (n ++ [y]) <;> simp) (fun y hy => kid_size hW ((kidL_mem hW.once).1 hy))
    rw [← hsz]
    exact hD.own.len Tryd.underlying43 ty
end Trk
end Go.Proofs.YtkhkcfbacnkcnaaDoor
/- The program's Rmdir. -/
namespace Go.Proofs.YtkhkcfbacnkcnaaDoor
open Go.RowKit Go.MapKept
namespace Trk
open Tre (Nm Th fi isDirAt dirT goT goF setT dropT fileT addT zt datT unlinkT rmdirT kidT kidL fv)
open Pat (Txs)

theorem rmdirT_no {t : List Th} {p : ByteArray} (h : dirE t p ≠ 0) : rmdirT t p = (t, dirE t p) := by
  unfold dirE at h
  unfold dirE Tre.rmdirT
  cases hs : Pat.spl p with
  | none => rfl
  | some n =>
    rw [hs] at h
    simp only at h ⊢
    by_cases hg : goT t n ≠ 0
    · rw [if_pos hg, if_pos hg]
    · rw [if_neg hg] at h ⊢
      rw [if_neg hg]
      by_cases hd : dirT t n = false
      · rw [if_pos hd, if_pos hd]
      · rw [if_neg hd] at h
        exact absurd rfl h
theorem rmdirT_yes {t : List Th} {p : ByteArray} {n : Nm} {s : ByteArray} (h : IsDir t p n s) : rmdirT t p = if n = [] then (t, 1) else if 0 < (kidT t n).length then (t, 8) else (dropT t (fv t n).toNat, 0) := by
  unfold Tre.rmdirT
  rw [h.spl]
  simp only [h.go, h.dir]
  simp

theorem thing_size : (Tryd.prog.info? 45).map (fun i => i.size) = some 3 := by kernel_rfl
theorem eql_same (w : World) (b : Nat) : (binOp .eql 59 (.pointer (some ⟨b, 0, none⟩)) (.pointer (some ⟨b, 0, none⟩))).run Tryd.prog w = .ok (.bool true) w := by
  obtain ⟨j, hj, _⟩ := Option.map_eq_some_iff.1 thing_size
  exact run_eql_ptr_same w _ Tryd.underlying59 hj
theorem eql_other {w : World} {N N' : Nat} {x y : Nd} {f g : ByteArray → Option Nat} {d d' : Bool} {s s' : ByteArray} (h : Nod w N x f d s) (h' : Nod w N' y g d' s') (hne : x.b ≠ y.b) : (binOp .eql 59 (.pointer (some ⟨x.b, 0, none⟩)) (.pointer (some ⟨y.b, 0, none⟩))).run Tryd.prog w = .ok (.bool false) w := by
  obtain ⟨j, hj, hs⟩ := Option.map_eq_some_iff.1 thing_size
  obtain ⟨t1, h1⟩ := h.box
  obtain ⟨t2, h2⟩ := h'.box
  exact run_eql_ptr_other w Tryd.underlying59 hj (by rw [hs]; decide) (fun e => hne (by injection e)) h1 h2

set_option maxRecDepth 100000 in
set_option maxHeartbeats 1000000 in
theorem rmdir_any (w : World) (N b0 : Nat) (t : List Th) (L : Nm → Nd) (p : ByteArray) (hM : Mem w N t L) (hb : (L []).b = b0) (hW : Wf t) (hp : p.size < 4294967281) :
    Calls Tryd.prog 20 #[.pointer (some ⟨b0, 0, none⟩), .string p] w fun e w' => e = .returned (.int .i64 (rmdirT t p).2) ∧ TrkR w N t L (rmdirT t p).1 w' := by
  have HM := Lib.hid hM
  clear hM
  go_enter Tryd.func20, Tryd.ntmps20
  go_wp2_with fail
  refine (dirAt_any w N b0 t L p HM.out hb hp).mono ?_
  rintro e w1 ⟨hf, hb1⟩
  have HB1 := Lib.hid hb1
  have HM1 := Lib.hid (HM.out.keep hb1)
  clear hb1
  rcases hf with ⟨he, rfl⟩ | ⟨n, s, hf, rfl⟩
  · have HZ := Lib.hid (rmdirT_no he)
    generalize hg : dirE t p = g at *
    clear hg
    go_wp2
    refine bodyPost_ret (v := .int .i64 g) ?_ rfl ⟨by rw [HZ.out], by rw [HZ.out]; exact TrkR.same HM.out HB1.out⟩
    simp [results, Tryd.results20, go_sem]
  · have HF := Lib.hid hf
    have HZ1 := Lib.hid (rmdirT_yes hf)
    have HN := Lib.hid (HM1.out.nod _ _ _ hf.at')
    have hc2 := HN.out.c2
    clear hf
    by_cases h0 : n = []
    · have HZ := Lib.hid (HZ1.out.trans (if_pos h0))
      have heq : (binOp .eql 59 (.pointer (some ⟨(L n).b, 0, none⟩)) (.pointer (some ⟨b0, 0, none⟩))).run Tryd.prog w1 = .ok (.bool true) w1 := by
        rw [show (L n).b = b0 by rw [h0, hb]]
        exact eql_same w1 b0
      clear h0
      generalize hy : L n = y at *
      go_wp2
      refine bodyPost_ret (v := .int .i64 1) ?_ rfl ⟨by rw [HZ.out], by rw [HZ.out]; exact TrkR.same HM.out HB1.out⟩
      simp [results, Tryd.results20, go_sem]
    · have HZ2 := Lib.hid (HZ1.out.trans (if_neg h0))
      have hbb : (L n).b ≠ b0 := fun e => by
        rw [← hb] at e
        exact HM1.out.apart n [] _ _ HF.out.at' (T_root t) h0 _ (own_mem.2 (.inl rfl)) (own_mem.2 (.inl e))
      have heq : (binOp .eql 59 (.pointer (some ⟨(L n).b, 0, none⟩)) (.pointer (some ⟨b0, 0, none⟩))).run Tryd.prog w1 = .ok (.bool false) w1 := by
        rw [← hb] at hbb ⊢
        exact eql_other HN.out (HM1.out.nod _ _ _ (T_root t)) hbb
      have hlen := HN.out.kids hW
      have HK := Lib.hid (kidT_len t n)
      obtain ⟨m, z, rfl⟩ := names_last h0
      obtain ⟨i, hi⟩ := fi_of_T h0 HF.out.at'
      have HD := Lib.hid (drop_any w1 N b0 i t L p m z _ HM1.out hb hW hp HF.out.spl HF.out.at' hi)
      have HFV := Lib.hid (show (fv t (m ++ [z])).toNat = i by unfold Tre.fv; rw [hi]; rfl)
      clear h0 hi
      generalize hn : m ++ [z] = n at *
      generalize hy : L n = y at *
      generalize hk : (kidL t n).length = k at *
      by_cases hk0 : 0 < k
      · have HZ := Lib.hid (HZ2.out.trans (if_pos (by rw [HK.out]; exact hk0)))
        go_wp2
        refine bodyPost_ret (v := .int .i64 8) ?_ rfl ⟨by rw [HZ.out], by rw [HZ.out]; exact TrkR.same HM.out HB1.out⟩
        simp [results, Tryd.results20, go_sem]
      · have HZ := Lib.hid (HZ2.out.trans (if_neg (by rw [HK.out]; exact hk0)))
        go_wp2_with fail
        refine HD.out.mono ?_
        rintro e w2 ⟨rfl, hr⟩
        have HR := Lib.hid (TrkR.after HB1.out hr)
        clear hr
        go_wp2
        refine bodyPost_ret (v := .int .i64 0) ?_ rfl ⟨by rw [HZ.out], by rw [HZ.out, HFV.out]; exact HR.out⟩
        simp [results, Tryd.results20, go_sem]
end Trk
end Go.Proofs.YtkhkcfbacnkcnaaDoor
/- Each deed leaves a tree in which each thing has its directory. -/
namespace Go.Proofs.YtkhkcfbacnkcnaaDoor
open Go.RowKit Go.MapKept
namespace Trk
open Tre (Nm Th fi isDirAt dirT goT goF setT dropT fileT addT zt datT unlinkT rmdirT kidT kidL fv writeT wrT truncT)
open Pat (Txs)

theorem Wf.added {t : List Th} (hW : Wf t) {n : Nm} {d : Bool} (h0 : n ≠ []) (hI : Pat.IsNames n) (hn : T t n = none) (hup : ∃ s, T t (n.take (n.length - 1)) = some (true, s)) : Wf (t ++ [(n, d, ByteArray.empty)]) := by
  obtain ⟨_, hfi⟩ := T_no hn
  have hT : ∀ q, T (t ++ [(n, d, ByteArray.empty)]) q = if q = n then some (d, ByteArray.empty) else T t q := T_app (x := (n, d, ByteArray.empty)) h0 hfi
  have hnm : ∀ x ∈ t, x.1 ≠ n := fun x hx e => by
    obtain ⟨i, hi⟩ := fi_mem hx
    rw [e, hfi] at hi
    cases hi
  refine ⟨?_, fun x hx => ?_, fun p x v hv => ?_, fun p s hp => ?_, fun x hx => ?_⟩
  · unfold Once
    rw [List.map_append, List.nodup_append]
    refine ⟨hW.once, by simp, fun a ha b hb e => ?_⟩
    obtain ⟨x, hx, rfl⟩ := List.mem_map.1 ha
    have hb : b = n := by simpa using hb
    exact hnm x hx (e.trans hb)
  · rcases List.mem_append.1 hx with hx | hx
    · exact hW.nm x hx
    · obtain rfl : x = (n, d, ByteArray.empty) := by simpa using hx
      exact ⟨h0, hI⟩
  · rw [hT] at hv
    by_cases e : p ++ [x] = n
    · have ep : n.take (n.length - 1) = p := by rw [← e]; simp
      rw [ep] at hup
      obtain ⟨s, hs⟩ := hup
      refine ⟨s, ?_⟩
      rw [hT, if_neg (fun e' => app_self (x := x) (e.trans e'.symm)), hs]
    · rw [if_neg e] at hv
      obtain ⟨s, hs⟩ := hW.up _ _ _ hv
      refine ⟨s, ?_⟩
      rw [hT, if_neg (fun e' => by rw [e', hn] at hs; cases hs), hs]
  · rw [hT] at hp
    by_cases e : p = n
    · rw [if_pos e] at hp
      injection hp with hp
      injection hp with _ hp
      exact hp.symm
    · rw [if_neg e] at hp
      exact hW.dat p s hp
  · rcases List.mem_append.1 hx with hx | hx
    · exact hW.size x hx
    · obtain rfl : x = (n, d, ByteArray.empty) := by simpa using hx
      show ByteArray.empty.size ≤ 268435456
      decide
theorem Wf.add {t : List Th} (hW : Wf t) (p : ByteArray) (d : Bool) : Wf (addT t p d).1 := by
  cases hs : Pat.spl p with
  | none => rw [Tre.addT_none hs]; exact hW
  | some n =>
    by_cases h0 : n = []
    · rw [h0] at hs
      rw [Tre.addT_root hs]; exact hW
    · by_cases hg : goT t (n.take (n.length - 1)) = 0
      · obtain ⟨v, hv⟩ := goT_some hg
        have hd := dirT_T hv
        cases hv1 : v.1 with
        | false => rw [Tre.addT_file hs h0 hg (hd.trans hv1)]; exact hW
        | true =>
          cases hf : fi t n with
          | some i => rw [Tre.addT_there hs h0 hg (hd.trans hv1) hf]; exact hW
          | none =>
            rw [Tre.addT_yes hs h0 hg (hd.trans hv1) hf]
            exact hW.added h0 (spl_is hs) (T_none h0 hf) ⟨v.2, by rw [hv, ← hv1]⟩
      · rw [Tre.addT_go hs h0 hg]; exact hW
theorem Wf.set {t : List Th} (hW : Wf t) {n : Nm} {i : Nat} {s u : ByteArray} (h0 : n ≠ []) (hi : fi t n = some i) (hv : T t n = some (false, s)) (hu : u.size ≤ 268435456) : Wf (setT t i u) := by
  have hT := T_set h0 hi hv u
  refine ⟨?_, fun x hx => ?_, fun p x v hv' => ?_, fun p s' hp => ?_, fun x hx => ?_⟩
  · unfold Once
    rw [setT_names]
    exact hW.once
  · have : x.1 ∈ t.map (·.1) := by
      rw [← setT_names t i u]
      exact List.mem_map.2 ⟨x, hx, rfl⟩
    obtain ⟨y, hy, e⟩ := List.mem_map.1 this
    rw [← e]
    exact hW.nm y hy
  · rw [hT] at hv'
    have key : ∃ s, T t p = some (true, s) := by
      by_cases e : p ++ [x] = n
      · rw [← e] at hv
        exact hW.up _ _ _ hv
      · rw [if_neg e] at hv'
        exact hW.up _ _ _ hv'
    obtain ⟨s', hs'⟩ := key
    refine ⟨s', ?_⟩
    rw [hT, if_neg (fun e => by rw [e, hv] at hs'; cases hs'), hs']
  · rw [hT] at hp
    by_cases e : p = n
    · rw [if_pos e] at hp
      cases hp
    · rw [if_neg e] at hp
      exact hW.dat p s' hp
  · obtain ⟨j, hj⟩ := List.getElem?_of_mem hx
    rw [setT_at] at hj
    cases hy : t[j]? with
    | none => rw [hy] at hj; cases hj
    | some y =>
      rw [hy] at hj
      simp only [Option.map_some, Option.some.injEq] at hj
      rw [← hj]
      split
      · exact hu
      · exact hW.size y (List.mem_of_getElem? hy)
theorem Wf.drop {t : List Th} (hW : Wf t) {n : Nm} {i : Nat} (h0 : n ≠ []) (hi : fi t n = some i) (hk : ∀ x, T t (n ++ [x]) = none) : Wf (dropT t i) := by
  have hT := T_drop hW.once h0 hi
  obtain ⟨h1, _, _⟩ := Tre.fi_some hi
  refine ⟨once_drop hW.once i, fun x hx => hW.nm x ((mem_drop hW.once h1 x).1 hx).1, fun p x v hv => ?_, fun p s hp => ?_, fun x hx => hW.size x ((mem_drop hW.once h1 x).1 hx).1⟩
  · rw [hT] at hv
    by_cases e : p ++ [x] = n
    · rw [if_pos e] at hv
      cases hv
    · rw [if_neg e] at hv
      obtain ⟨s, hs⟩ := hW.up _ _ _ hv
      refine ⟨s, ?_⟩
      rw [hT, if_neg (fun e' => by rw [e', hk x] at hv; cases hv), hs]
  · rw [hT] at hp
    by_cases e : p = n
    · rw [if_pos e] at hp
      cases hp
    · rw [if_neg e] at hp
      exact hW.dat p s hp
theorem Wf.leaf {t : List Th} (hW : Wf t) {n : Nm} {s : ByteArray} (h : T t n = some (false, s)) (x : ByteArray) : T t (n ++ [x]) = none := by
  cases hv : T t (n ++ [x]) with
  | none => rfl
  | some v =>
    obtain ⟨s', hs'⟩ := hW.up _ _ _ hv
    rw [h] at hs'
    cases hs'
theorem file_yes {t : List Th} {p : ByteArray} (h : (fileT t p).2 = 0) : ∃ n i s, IsFile t p n i s := by
  by_cases hg : ge t p = 0
  · obtain ⟨n, ⟨d, s⟩, hs, hn, hv, _⟩ := ge_yes (L := fun _ => ⟨0, none, 0, none⟩) hg
    cases d with
    | true => rw [no_file hs hn hv] at h; cases h
    | false =>
      obtain ⟨i, hi⟩ := is_file hs hn hv
      exact ⟨n, i, s, hi⟩
  · rw [(ge_no (L := fun _ => ⟨0, none, 0, none⟩) hg).2] at h
    exact absurd h hg
theorem ovr_size {s : ByteArray} {a : Nat} {bs : List Nat} (h0 : bs ≠ []) : (ovr s a bs).size = max s.size (a + bs.length) := by
  unfold ovr
  have hp : (pad s (a + bs.length)).size = max s.size (a + bs.length) := by
    by_cases h : s.size ≤ a + bs.length
    · rw [pad_size h]; omega
    · rw [pad_none (by omega)]; omega
  rw [if_neg h0, Crc.str_size, ovl_len (by rw [Crc.tx_len, hp]; omega), Crc.tx_len, hp]
theorem Wf.write {t : List Th} (hW : Wf t) (p : ByteArray) (x : Int) {bs : List Nat} (hb : Crc.Byt bs) : Wf (writeT t p x (Crc.str bs)).1 := by
  unfold Tre.writeT
  by_cases he : (fileT t p).2 ≠ 0
  · rw [if_pos he]; exact hW
  · rw [if_neg he]
    obtain ⟨n, i, s, hf⟩ := file_yes (by simpa using he)
    obtain ⟨f1, f2, _⟩ := fileT_file hf
    rw [f1, f2]
    by_cases hx : x < 0 ∨ 268435456 < x ∨ 268435456 < x + ((Crc.str bs).size : Int)
    · rw [if_pos hx]; exact hW
    · rw [if_neg hx]
      by_cases h0 : (Crc.str bs).size = 0
      · rw [if_pos h0]; exact hW
      · rw [if_neg h0]
        have hb0 : bs ≠ [] := fun e => h0 (by rw [e]; rfl)
        obtain ⟨a, rfl⟩ : ∃ a : Nat, x = (a : Int) := ⟨x.toNat, by omega⟩
        rw [← ovr_wr hb hb0]
        refine hW.set hf.ne hf.fi hf.at' ?_
        rw [ovr_size hb0]
        rw [Crc.str_size] at hx
        have := hW.fsize hf.at'
        omega
theorem Wf.unlink {t : List Th} (hW : Wf t) (p : ByteArray) : Wf (unlinkT t p).1 := by
  unfold Tre.unlinkT
  by_cases he : (fileT t p).2 ≠ 0
  · rw [if_pos he]; exact hW
  · rw [if_neg he]
    obtain ⟨n, i, s, hf⟩ := file_yes (by simpa using he)
    rw [(fileT_file hf).2.1]
    exact hW.drop hf.ne hf.fi (hW.leaf hf.at')
theorem Wf.rmdir {t : List Th} (hW : Wf t) (p : ByteArray) : Wf (rmdirT t p).1 := by
  by_cases he : dirE t p = 0
  · unfold dirE at he
    cases hs : Pat.spl p with
    | none => rw [hs] at he; cases he
    | some n =>
      rw [hs] at he
      simp only at he
      by_cases hg : goT t n = 0
      · rw [if_neg (fun h => h hg)] at he
        by_cases hd : dirT t n = false
        · rw [if_pos hd] at he
          cases he
        · obtain ⟨⟨d, s⟩, hv⟩ := goT_some hg
          have hdv := dirT_T hv
          have hdt : d = true := by cases d <;> simp_all
          subst hdt
          rw [rmdirT_yes ⟨hs, hv, hg, hdv⟩]
          by_cases h0 : n = []
          · rw [if_pos h0]; exact hW
          · rw [if_neg h0]
            by_cases hk : 0 < (kidT t n).length
            · rw [if_pos hk]; exact hW
            · rw [if_neg hk]
              obtain ⟨i, hi⟩ := fi_of_T h0 hv
              have : (fv t n).toNat = i := by unfold Tre.fv; rw [hi]; rfl
              rw [this]
              refine hW.drop h0 hi (fun x => ?_)
              cases hx : T t (n ++ [x]) with
              | none => rfl
              | some u =>
                have := (kidL_mem hW.once (n := n) (x := x)).2 (by rw [hx]; rfl)
                rw [kidT_len] at hk
                exact absurd (List.length_pos_of_mem this) hk
      · rw [if_pos hg] at he
        exact absurd he hg
  · rw [rmdirT_no he]; exact hW
end Trk
end Go.Proofs.YtkhkcfbacnkcnaaDoor
/- Rows that are sorted are one, whoever sorted them. Of no program. -/
namespace Go.Proofs.YtkhkcfbacnkcnaaDoor
open Go.RowKit Go.MapKept
namespace Trk
open Tre (Nm Th ins sorted kidL kidT)

section
variable {α : Type} {lt : α → α → Bool}
theorem ins_perm : ∀ (o : List α) (x : α), (ins lt o x).Perm (x :: o)
  | [], x => List.Perm.refl _
  | y :: o, x => by
    rw [Tre.ins]
    split
    · exact ((ins_perm o x).cons y).trans (List.Perm.swap x y o)
    · exact List.Perm.refl _
theorem sorted_perm (l : List α) : (sorted lt l).Perm l := by
  have key : ∀ (l o : List α), (l.foldl (ins lt) o).Perm (o ++ l) := by
    intro l
    induction l with
    | nil => intro o; rw [List.append_nil]; exact List.Perm.refl _
    | cons x l ih =>
      intro o
      rw [List.foldl_cons]
      refine (ih _).trans (((ins_perm o x).append_right l).trans ?_)
      exact (List.perm_middle (a := x) (l₁ := o) (l₂ := l)).symm
  exact key l []
theorem ins_pw (tr : ∀ a b c, lt a b = true → lt b c = true → lt a c = true) : ∀ (o : List α) (x : α), o.Pairwise (fun a b => lt a b = true) → (∀ y ∈ o, lt y x = true ∨ lt x y = true) → (ins lt o x).Pairwise (fun a b => lt a b = true)
  | [], x, _, _ => by simp [Tre.ins]
  | y :: o, x, h, ht => by
    obtain ⟨h1, h2⟩ := List.pairwise_cons.1 h
    rw [Tre.ins]
    split
    · rename_i hy
      refine List.pairwise_cons.2 ⟨fun z hz => ?_, ins_pw tr o x h2 (fun z hz => ht z (by simp [hz]))⟩
      rcases List.mem_cons.1 ((ins_perm o x).mem_iff.1 hz) with rfl | hz
      · exact hy
      · exact h1 z hz
    · rename_i hy
      have hxy : lt x y = true := (ht y (by simp)).resolve_left hy
      refine List.pairwise_cons.2 ⟨fun z hz => ?_, h⟩
      rcases List.mem_cons.1 hz with rfl | hz
      · exact hxy
      · exact tr _ _ _ hxy (h1 z hz)
theorem sorted_pw (tr : ∀ a b c, lt a b = true → lt b c = true → lt a c = true) (l : List α) (ht : l.Pairwise (fun a b => lt a b = true ∨ lt b a = true)) : (sorted lt l).Pairwise (fun a b => lt a b = true) := by
  have key : ∀ (l o : List α), o.Pairwise (fun a b => lt a b = true) → l.Pairwise (fun a b => lt a b = true ∨ lt b a = true) → (∀ a ∈ o, ∀ b ∈ l, lt a b = true ∨ lt b a = true) → (l.foldl (ins lt) o).Pairwise (fun a b => lt a b = true) := by
    intro l
    induction l with
    | nil => intro o h _ _; exact h
    | cons x l ih =>
      intro o h hl hol
      obtain ⟨h1, h2⟩ := List.pairwise_cons.1 hl
      rw [List.foldl_cons]
      refine ih _ (ins_pw tr o x h (fun y hy => hol y hy x (by simp))) h2 (fun a ha b hb => ?_)
      rcases List.mem_cons.1 ((ins_perm o x).mem_iff.1 ha) with rfl | ha
      · exact h1 b hb
      · exact hol a ha b (by simp [hb])
  exact key l [] List.Pairwise.nil ht (fun a ha => by simp at ha)
theorem one_of (as' : ∀ a b, lt a b = true → lt b a = true → False) {l m : List α} (h : l.Perm m) (hl : l.Pairwise (fun a b => lt a b = true)) (hm : m.Pairwise (fun a b => lt a b = true)) : l = m :=
  List.Perm.eq_of_pairwise (le := fun a b => lt a b = true) (fun a b _ _ h1 h2 => (as' a b h1 h2).elim) hl hm h
end
theorem less_lt (a b : ByteArray) : Pat.less a b = decide (a.data.toList < b.data.toList) := by
  unfold Pat.less
  rw [bytesLess_eq, Lib.toList_data, Lib.toList_data]
theorem less_tr (a b c : ByteArray) (h1 : Pat.less a b = true) (h2 : Pat.less b c = true) : Pat.less a c = true := by
  rw [less_lt, decide_eq_true_iff] at *
  exact List.lt_trans h1 h2
theorem less_as (a b : ByteArray) (h1 : Pat.less a b = true) (h2 : Pat.less b a = true) : False := by
  have := less_tr a b a h1 h2
  rw [Pat.less_irr] at this
  cases this
theorem less_or {a b : ByteArray} (h : a ≠ b) : Pat.less a b = true ∨ Pat.less b a = true := by
  have := Pat.less_tot h
  cases hb : Pat.less b a with
  | true => exact .inr rfl
  | false => rw [hb] at this; exact .inl this
theorem kidT_pw {t : List Th} (ht : Once t) (p : Nm) : (kidT t p).Pairwise (fun a b => Pat.less a b = true) := by
  rw [Tre.kidT_eq]
  exact sorted_pw less_tr _ ((kidL_once ht p).imp fun h => less_or h)
theorem kidT_perm (t : List Th) (p : Nm) : (kidT t p).Perm (kidL t p) := by
  rw [Tre.kidT_eq]
  exact sorted_perm _
/-- the library's sorted keys are the document's names -/
theorem keys_kidT {t : List Th} (ht : Once t) (p : Nm) {ss : List (List UInt8)} (h : ss.Perm ((kidL t p).map fun x => x.data.toList)) : (ss.mergeSort (fun x y => decide (x ≤ y))).map (fun x => (⟨x.toArray⟩ : ByteArray)) = kidT t p := by
  have hp : ((ss.mergeSort (fun x y => decide (x ≤ y))).map (fun x => (⟨x.toArray⟩ : ByteArray))).Perm (kidL t p) := by
    have := ((List.mergeSort_perm ss (fun x y => decide (x ≤ y))).trans h).map (fun x => (⟨x.toArray⟩ : ByteArray))
    rw [List.map_map] at this
    refine this.trans ?_
    rw [List.map_congr_left (g := id) (fun x _ => by simp)]
    rw [List.map_id]
  refine one_of less_as (hp.trans (kidT_perm t p).symm) ?_ (kidT_pw ht p)
  have hnd : (ss.mergeSort (fun x y => decide (x ≤ y))).Nodup := by
    refine ((List.mergeSort_perm ss _).trans h).nodup_iff.2 ?_
    exact List.pairwise_map.2 ((kidL_once ht p).imp fun hne e => hne (data_inj e))
  have hle : (ss.mergeSort (fun x y => decide (x ≤ y))).Pairwise (fun a b => decide (a ≤ b) = true) := List.pairwise_mergeSort (fun a b c h1 h2 => by simp only [decide_eq_true_eq] at *; exact List.le_trans h1 h2) (fun a b => by simp only [Bool.or_eq_true, decide_eq_true_eq]; exact List.le_total a b) ss
  refine List.pairwise_map.2 ((hle.and hnd).imp fun {a b} hab => ?_)
  rw [less_lt, decide_eq_true_iff]
  have h1 : a ≤ b := of_decide_eq_true hab.1
  simp only
  rcases Classical.em (a < b) with h | h
  · exact h
  · exact absurd (List.le_antisymm h1 (List.not_lt.1 h)) hab.2
end Trk
end Go.Proofs.YtkhkcfbacnkcnaaDoor
/- How many things are in a directory, by its names. Of no program. -/
namespace Go.Proofs.YtkhkcfbacnkcnaaDoor
open Go.RowKit Go.MapKept
namespace Trk
open Tre (Nm Th fi goT kidL)

/-- does it stand in there? -/
def Und (p : Nm) (y : Th) : Bool := decide (p.length < y.1.length ∧ y.1.take p.length = p)
/-- the names that stand in there, and this one -/
def cn (t : List Th) (p : Nm) : Nat := 1 + t.countP (Und p)
theorem sum_one {α : Type} [DecidableEq α] (o : Option α) : ∀ (ks : List α), ks.Nodup → (ks.map fun x => if o = some x then 1 else 0).sum = if ∃ x ∈ ks, o = some x then 1 else 0
  | [], _ => by simp
  | k :: ks, h => by
    obtain ⟨h1, h2⟩ := List.nodup_cons.1 h
    rw [List.map_cons, List.sum_cons, sum_one o ks h2]
    by_cases e : o = some k
    · rw [if_pos e, if_neg (fun ⟨x, hx, e'⟩ => by rw [e] at e'; injection e' with e'; exact h1 (e' ▸ hx)), if_pos ⟨k, by simp, e⟩]
    · rw [if_neg e, Nat.zero_add]
      by_cases e' : ∃ x ∈ ks, o = some x
      · obtain ⟨x, hx, ex⟩ := e'
        rw [if_pos ⟨x, hx, ex⟩, if_pos ⟨x, by simp [hx], ex⟩]
      · rw [if_neg e', if_neg (fun ⟨x, hx, ex⟩ => by
          rcases List.mem_cons.1 hx with rfl | hx
          · exact e ex
          · exact e' ⟨x, hx, ex⟩)]
theorem sum_split {α β : Type} [DecidableEq α] (key : β → Option α) (ks : List α) (hk : ks.Nodup) : ∀ t : List β, (ks.map fun x => t.countP fun y => decide (key y = some x)).sum = t.countP fun y => decide (∃ x ∈ ks, key y = some x)
  | [] => by
    simp only [List.countP_nil]
    induction ks with
    | nil => rfl
    | cons k ks ih => rw [List.map_cons, List.sum_cons, Nat.zero_add]; exact ih (List.nodup_cons.1 hk).2
  | y :: t => by
    have e : (ks.map fun x => (y :: t).countP fun y => decide (key y = some x)) = ks.map fun x => (t.countP fun y => decide (key y = some x)) + (if key y = some x then 1 else 0) := by
      apply List.map_congr_left
      intro x _
      rw [List.countP_cons]
      simp
    have add : ∀ (l : List α) (f g : α → Nat), (l.map fun x => f x + g x).sum = (l.map f).sum + (l.map g).sum := fun l f g => by
      induction l with
      | nil => rfl
      | cons a l ih => simp only [List.map_cons, List.sum_cons, ih]; omega
    rw [e, add, sum_split key ks hk t, sum_one (key y) ks hk, List.countP_cons]
    simp
/-- in whose directory's name's way it stands -/
def way (p : Nm) (y : Th) : Option ByteArray := if Und p y then y.1[p.length]? else none
theorem way_und {p : Nm} {y : Th} {x : ByteArray} : way p y = some x ↔ y.1.take (p.length + 1) = p ++ [x] := by
  unfold way Und
  by_cases h : p.length < y.1.length ∧ y.1.take p.length = p
  · have e1 : y.1.take (p.length + 1) = p ++ [y.1[p.length]'h.1] := (List.take_succ_eq_append_getElem h.1).trans (congrArg (· ++ [y.1[p.length]'h.1]) h.2)
    rw [if_pos (decide_eq_true h), List.getElem?_eq_getElem h.1, e1]
    constructor
    · intro e
      injection e with e
      rw [e]
    · intro e
      rw [app_inj e]
  · rw [if_neg (fun e => h (of_decide_eq_true e))]
    constructor
    · intro e
      cases e
    · intro e
      have hl := congrArg List.length e
      rw [List.length_take, List.length_append, List.length_singleton] at hl
      refine absurd ⟨by omega, ?_⟩ h
      have := congrArg (List.take p.length) e
      rw [List.take_take, Nat.min_eq_left (by omega), List.take_left] at this
      exact this
theorem cn_kids {t : List Th} (hW : Wf t) (p : Nm) : cn t p = 1 + ((kidL t p).map fun x => cn t (p ++ [x])).sum := by
  have h1 : ∀ x ∈ kidL t p, cn t (p ++ [x]) = t.countP fun y => decide (way p y = some x) := fun x hx => by
    obtain ⟨v, hv⟩ := Option.isSome_iff_exists.1 ((kidL_mem hW.once).1 hx)
    have hm := T_mem (by simp) hv
    have key : ∀ y : Th, (decide (way p y = some x)) = (Und (p ++ [x]) y || decide (y.1 = p ++ [x])) := fun y => by
      rw [Bool.eq_iff_iff, Bool.or_eq_true, decide_eq_true_iff, decide_eq_true_iff, way_und]
      unfold Und
      rw [decide_eq_true_iff, List.length_append, List.length_singleton]
      constructor
      · intro e
        by_cases h : p.length + 1 < y.1.length
        · exact .inl ⟨h, e⟩
        · exact .inr (by rw [← e]; exact (List.take_of_length_le (by omega)).symm)
      · rintro (h | h)
        · exact h.2
        · rw [h]
          exact List.take_of_length_le (by simp)
    have hone : t.countP (fun y => decide (y.1 = p ++ [x])) = 1 := by
      obtain ⟨i, hi, e⟩ := List.getElem_of_mem hm
      have : t.filter (fun y => decide (y.1 = p ++ [x])) = [(p ++ [x], v)] := by
        have hnd : (t.filter (fun y => decide (y.1 = p ++ [x]))).Pairwise (fun a b => a.1 ≠ b.1) := (List.pairwise_map.1 hW.once).sublist List.filter_sublist
        have hmem : (p ++ [x], v) ∈ t.filter (fun y => decide (y.1 = p ++ [x])) := List.mem_filter.2 ⟨hm, by simp⟩
        have hall : ∀ y ∈ t.filter (fun y => decide (y.1 = p ++ [x])), y.1 = p ++ [x] := fun y hy => of_decide_eq_true (List.mem_filter.1 hy).2
        generalize t.filter (fun y => decide (y.1 = p ++ [x])) = l at *
        match l, hnd, hmem, hall with
        | [a], _, hmem, _ => rw [List.mem_singleton.1 hmem]
        | a :: b :: l, hnd, _, hall => exact absurd ((hall a (by simp)).trans (hall b (by simp)).symm) ((List.pairwise_cons.1 hnd).1 b (by simp))
      rw [List.countP_eq_length_filter, this]
      rfl
    have hdis : ∀ l : List Th, l.countP (fun y => Und (p ++ [x]) y || decide (y.1 = p ++ [x])) = l.countP (Und (p ++ [x])) + l.countP (fun y => decide (y.1 = p ++ [x])) := fun l => by
      induction l with
      | nil => rfl
      | cons a l ih =>
        rw [List.countP_cons, List.countP_cons, List.countP_cons, ih]
        have hd : ¬ (Und (p ++ [x]) a = true ∧ a.1 = p ++ [x]) := fun ⟨h1, h2⟩ => by
          have := (of_decide_eq_true h1).1
          rw [h2] at this
          omega
        by_cases ha : Und (p ++ [x]) a = true <;> by_cases hb : a.1 = p ++ [x]
        · exact absurd ⟨ha, hb⟩ hd
        all_goals simp [ha, hb]
        all_goals omega
    unfold cn
    rw [List.countP_congr (p := fun y => decide (way p y = some x)) (q := fun y => Und (p ++ [x]) y || decide (y.1 = p ++ [x])) (fun y _ => by rw [key y]), hdis, hone]
    omega
  rw [List.map_congr_left h1, sum_split (way p) _ (kidL_once hW.once p)]
  unfold cn
  congr 1
  apply List.countP_congr
  intro y hy
  rw [decide_eq_true_iff]
  constructor
  · intro h
    have hu := of_decide_eq_true h
    have hw : way p y = some (y.1[p.length]'hu.1) := by
      unfold way
      rw [if_pos h, List.getElem?_eq_getElem hu.1]
    refine ⟨_, (kidL_mem hW.once).2 ?_, hw⟩
    have hy0 := (hW.nm y hy).1
    have hTy := mem_T hW.once hy hy0
    rw [← way_und.1 hw]
    rcases Nat.lt_or_ge (p.length + 1) y.1.length with hl | hl
    · obtain ⟨s, hs⟩ := wf_take hW 0 y.1.length y.2 (by omega) (Nat.le_refl _) (by rw [List.take_length]; exact hTy) (p.length + 1) hl
      rw [hs]
      rfl
    · rw [List.take_of_length_le hl, hTy]
      rfl
  · rintro ⟨x, _, hw⟩
    unfold way at hw
    by_cases h : Und p y = true
    · exact h
    · rw [if_neg h] at hw
      cases hw
/-- the whole tree -/
theorem cn_root {t : List Th} (hW : Wf t) : cn t [] = t.length + 1 := by
  unfold cn
  rw [List.countP_eq_length.2 (fun y hy => by
    unfold Und
    have := (hW.nm y hy).1
    refine decide_eq_true ⟨?_, rfl⟩
    exact List.length_pos_iff.2 this)]
  omega
end Trk
end Go.Proofs.YtkhkcfbacnkcnaaDoor
/- What is in a directory, name by name, each with what is in it: the document's order. Of no program. -/
namespace Go.Proofs.YtkhkcfbacnkcnaaDoor
open Go.RowKit Go.MapKept
namespace Trk
open Tre (Nm Th ins sorted kidL kidT allT)

/-- the thing that stands there -/
def th (t : List Th) (n : Nm) : Th := (n, (T t n).getD (false, ByteArray.empty))
theorem th_mem {t : List Th} {n : Nm} (h0 : n ≠ []) {v : Bool × ByteArray} (h : T t n = some v) : th t n ∈ t := by
  unfold th
  rw [h]
  exact T_mem h0 h
/-- what is in there, in order -/
def sb : Nat → List Th → Nm → List Th
  | 0, _, _ => []
  | k + 1, t, p => (kidT t p).flatMap fun x => th t (p ++ [x]) :: sb k t (p ++ [x])
theorem und_kid {p : Nm} {x : ByteArray} {y : Th} (h : Und (p ++ [x]) y = true) : Und p y = true := by
  obtain ⟨h1, h2⟩ := of_decide_eq_true h
  rw [List.length_append, List.length_singleton] at h1 h2
  refine decide_eq_true ⟨by omega, ?_⟩
  have := congrArg (List.take p.length) h2
  rw [List.take_take, Nat.min_eq_left (by omega), List.take_left] at this
  exact this
theorem sb_mem {t : List Th} (hW : Wf t) : ∀ (k : Nat) (p : Nm) (y : Th), 64 ≤ p.length + k → (y ∈ sb k t p ↔ y ∈ t ∧ Und p y = true)
  | 0, p, y, hk => by
    constructor
    · intro h
      simp [sb] at h
    · rintro ⟨h1, h2⟩
      have := (of_decide_eq_true h2).1
      have := (hW.nm y h1).2.1
      omega
  | k + 1, p, y, hk => by
    rw [sb, List.mem_flatMap]
    constructor
    · rintro ⟨x, hx, hy⟩
      obtain ⟨v, hv⟩ := Option.isSome_iff_exists.1 ((kidL_mem hW.once).1 ((kidT_perm t p).mem_iff.1 hx))
      rcases List.mem_cons.1 hy with rfl | hy
      · exact ⟨th_mem (by simp) hv, decide_eq_true ⟨by simp [th], by simp [th]⟩⟩
      · obtain ⟨h1, h2⟩ := (sb_mem hW k (p ++ [x]) y (by simp; omega)).1 hy
        exact ⟨h1, und_kid h2⟩
    · rintro ⟨h1, h2⟩
      obtain ⟨hl, ht⟩ := of_decide_eq_true h2
      have hw : way p y = some (y.1[p.length]'hl) := by
        unfold way
        rw [if_pos h2, List.getElem?_eq_getElem hl]
      have e1 := way_und.1 hw
      have hTy := mem_T hW.once h1 (hW.nm y h1).1
      have hT1 : ∃ v, T t (p ++ [y.1[p.length]'hl]) = some v := by
        rw [← e1]
        rcases Nat.lt_or_ge (p.length + 1) y.1.length with h | h
        · obtain ⟨s, hs⟩ := wf_take hW 0 y.1.length y.2 (by omega) (Nat.le_refl _) (by rw [List.take_length]; exact hTy) (p.length + 1) h
          exact ⟨_, hs⟩
        · exact ⟨_, by rw [List.take_of_length_le h]; exact hTy⟩
      obtain ⟨v, hv⟩ := hT1
      refine ⟨y.1[p.length]'hl, (kidT_perm t p).mem_iff.2 ((kidL_mem hW.once).2 (by rw [hv]; rfl)), ?_⟩
      rcases Nat.lt_or_ge (p.length + 1) y.1.length with h | h
      · refine List.mem_cons.2 (.inr ((sb_mem hW k _ y (by simp; omega)).2 ⟨h1, ?_⟩))
        exact decide_eq_true ⟨by simpa using h, by rw [List.length_append, List.length_singleton]; exact e1⟩
      · rw [List.take_of_length_le h] at e1
        refine List.mem_cons.2 (.inl ?_)
        rw [← e1] at hv ⊢
        unfold th
        rw [hTy]
        rfl
theorem bef_app : ∀ (p a b : Nm), Pat.bef (p ++ a) (p ++ b) = Pat.bef a b
  | [], _, _ => rfl
  | x :: p, a, b => by
    rw [List.cons_append, List.cons_append, Pat.bef, if_pos rfl]
    exact bef_app p a b
theorem bef_tr : ∀ (a b c : Nm), Pat.bef a b = true → Pat.bef b c = true → Pat.bef a c = true
  | a, b, [], _, h2 => by
    cases b <;> simp [Pat.bef] at h2
  | [], _, _ :: _, _, _ => by simp [Pat.bef]
  | x :: a, [], z :: c, h1, _ => by simp [Pat.bef] at h1
  | x :: a, y :: b, z :: c, h1, h2 => by
    rw [Pat.bef] at *
    by_cases e1 : x = y
    · subst e1
      rw [if_pos rfl] at h1
      by_cases e2 : x = z
      · rw [if_pos e2] at h2 ⊢
        exact bef_tr a b c h1 h2
      · rw [if_neg e2] at h2 ⊢
        exact h2
    · rw [if_neg e1] at h1
      by_cases e2 : y = z
      · subst e2
        rw [if_neg e1]
        exact h1
      · rw [if_neg e2] at h2
        have h3 := less_tr _ _ _ h1 h2
        rw [if_neg (fun e => by rw [e] at h1; exact less_as _ _ h1 h2)]
        exact h3
theorem ahead_as (a b : Th) (h1 : Tre.ahead a b = true) (h2 : Tre.ahead b a = true) : False := by
  unfold Tre.ahead at *
  have := bef_tr _ _ _ h1 h2
  rw [Pat.bef_irr] at this
  cases this
theorem und_split {p : Nm} {x : ByteArray} {y : Th} (h : y.1 = p ++ [x] ∨ Und (p ++ [x]) y = true) : ∃ r, y.1 = p ++ x :: r := by
  rcases h with h | h
  · exact ⟨[], h⟩
  · obtain ⟨_, h2⟩ := of_decide_eq_true h
    refine ⟨y.1.drop (p ++ [x]).length, ?_⟩
    have := List.take_append_drop (p ++ [x]).length y.1
    rw [h2] at this
    rw [← this]
    simp
theorem sb_pw {t : List Th} (hW : Wf t) : ∀ (k : Nat) (p : Nm), 64 ≤ p.length + k → (sb k t p).Pairwise (fun a b => Tre.ahead a b = true)
  | 0, p, _ => by simp [sb]
  | k + 1, p, hk => by
    rw [sb, List.pairwise_flatMap]
    refine ⟨fun x hx => ?_, ?_⟩
    · refine List.pairwise_cons.2 ⟨fun y hy => ?_, sb_pw hW k _ (by simp; omega)⟩
      obtain ⟨_, h2⟩ := (sb_mem hW k (p ++ [x]) y (by simp; omega)).1 hy
      obtain ⟨h3, h4⟩ := of_decide_eq_true h2
      have e := List.take_append_drop (p ++ [x]).length y.1
      rw [h4] at e
      unfold Tre.ahead th
      simp only
      rw [← e]
      have hb := bef_app (p ++ [x]) [] (y.1.drop (p ++ [x]).length)
      rw [List.append_nil] at hb
      rw [hb]
      cases hd : y.1.drop (p ++ [x]).length with
      | nil =>
        have := congrArg List.length hd
        rw [List.length_drop] at this
        simp only [List.length_nil] at this
        omega
      | cons z r => rfl
    · refine (kidT_pw hW.once p).imp fun {x1 x2} hlt => ?_
      intro a ha b hb
      have key : ∀ (x : ByteArray) (y : Th), y ∈ th t (p ++ [x]) :: sb k t (p ++ [x]) → ∃ r, y.1 = p ++ x :: r := fun x y hy => by
        rcases List.mem_cons.1 hy with rfl | hy
        · exact und_split (.inl rfl)
        · exact und_split (.inr ((sb_mem hW k (p ++ [x]) y (by simp; omega)).1 hy).2)
      obtain ⟨r1, e1⟩ := key x1 a ha
      obtain ⟨r2, e2⟩ := key x2 b hb
      unfold Tre.ahead
      rw [e1, e2, bef_app, Pat.bef, if_neg (fun e => by rw [e, Pat.less_irr] at hlt; cases hlt)]
      exact hlt
theorem once_pw {t : List Th} (h : Once t) : t.Pairwise (fun a b => Tre.ahead a b = true ∨ Tre.ahead b a = true) := by
  refine (List.pairwise_map.1 h).imp fun {a b} hne => ?_
  unfold Tre.ahead
  have := Pat.bef_tot _ _ hne
  cases hb : Pat.bef b.1 a.1 with
  | true => exact .inr rfl
  | false => rw [hb] at this; exact .inl (by simpa using this)
/-- all of it -/
theorem sb_all {t : List Th} (hW : Wf t) {k : Nat} (hk : 64 ≤ k) : sb k t [] = allT t := by
  have hp := sb_pw hW k [] (by simpa using hk)
  have hnd : (sb k t []).Nodup := hp.imp fun {a b} h e => by
    subst e
    unfold Tre.ahead at h
    rw [Pat.bef_irr] at h
    cases h
  have htn : t.Nodup := (List.pairwise_map.1 hW.once).imp fun h e => h (by rw [e])
  have hperm : (sb k t []).Perm t := (List.perm_ext_iff_of_nodup hnd htn).2 fun y => by
    rw [sb_mem hW k [] y (by simpa using hk)]
    refine ⟨fun h => h.1, fun h => ⟨h, decide_eq_true ⟨?_, rfl⟩⟩⟩
    exact List.length_pos_iff.2 (hW.nm y h).1
  refine one_of ahead_as (hperm.trans (sorted_perm t).symm) hp (sorted_pw (lt := Tre.ahead) (fun a b c h1 h2 => bef_tr a.1 b.1 c.1 h1 h2) t (once_pw hW.once))
end Trk
end Go.Proofs.YtkhkcfbacnkcnaaDoor
/- A directory's map, name by name, in whatever order. -/
namespace Go.Proofs.YtkhkcfbacnkcnaaDoor
open Go.RowKit Go.MapKept
namespace Trk
open Tre (Nm Th fi goT kidL)

/-- under way: these names are still to come -/
structure Rg (w : World) (g r N : Nat) (f : ByteArray → Option Nat) (D : DataW Unit) (ks : List ByteArray) (cnt : Nat) : Prop where
  ask : Ask w g N f D
  rgs : ∃ left, w.ranges Tryd.prog 9 Rp g r N D left cnt ∧ (∀ x, left (.string x.data.toList) = true ↔ x ∈ ks)
  once : ks.Nodup
  rlt : r < w.heap.size
  ne : r ≠ g
theorem Rg.keep {w w' : World} {g r N : Nat} {f : ByteArray → Option Nat} {D : DataW Unit} {ks : List ByteArray} {cnt : Nat} (h : Rg w g r N f D ks cnt) (hb : Below w.heap.size w w') : Rg w' g r N f D ks cnt := by
  obtain ⟨left, h1, h2⟩ := h.rgs
  have hg : w.grownBy w' none := ⟨hb.os, hb.tape, hb.output, hb.size, fun k hk _ => hb.block k hk⟩
  exact ⟨h.ask.block (hb.block g h.ask.own.lt), ⟨left, h1.kept hg (by simp) (by simp), h2⟩, h.once, Nat.lt_of_lt_of_le h.rlt hb.size, h.ne⟩
theorem list_of {x : List UInt8} : x = (⟨x.toArray⟩ : ByteArray).data.toList := by simp
theorem range_run {w : World} {g N : Nat} {f : ByteArray → Option Nat} {D : DataW Unit} (h : Ask w g N f D) {ks : List ByteArray} (hk : ks.Nodup) (hm : ∀ x, x ∈ ks ↔ (f x).isSome = true) (hl : ∀ x ∈ ks, x.size ≤ maxLen) :
    ∃ w' cnt, (Instr.range 43 (.map (some g))).run Tryd.prog w = .ok (.pointer (some ⟨w.heap.size, 0, none⟩)) w' ∧ Rg w' g w.heap.size N f D ks cnt ∧ Below w.heap.size w w' := by
  obtain ⟨w', hr, h1, h2, h3⟩ := h.own.range keyed Tryd.underlying43
  have hb : Below w.heap.size w w' := ⟨h2.os, h2.tape, h2.output, h2.size, fun k hk => h2.block k hk (by simp)⟩
  have hgl := h.own.lt
  refine ⟨w', _, hr, ⟨h.block (hb.block g hgl), ⟨_, h1, fun x => ?_⟩, hk, by omega, by omega⟩, hb⟩
  constructor
  · intro hx
    obtain ⟨es, hD, hpw, _⟩ := h.own.entries keyed
    have hxs : x.data.toList ∈ strKeys D := by
      subst hD
      rw [Maps.has_eq, List.any_eq_true] at hx
      obtain ⟨p, hp, e⟩ := hx
      exact List.mem_map.2 ⟨p, hp, by rw [WideAt.sameKey_eq e]; rfl⟩
    have hxl := strKeys_le h.own Tryd.underlying9 _ hxs
    rw [hm, ← h.has x (by simpa using hxl)]
    exact hx
  · intro hx
    rw [h.has x (hl x hx)]
    exact (hm x).1 hx
/-- all but one -/
def but (ks : List ByteArray) (x : ByteArray) : List ByteArray := ks.filter fun y => decide (y ≠ x)
theorem but_mem {ks : List ByteArray} {x z : ByteArray} : z ∈ but ks x ↔ z ≠ x ∧ z ∈ ks := by
  unfold but
  rw [List.mem_filter, decide_eq_true_iff]
  exact And.comm
theorem but_perm {ks : List ByteArray} {x : ByteArray} (h : ks.Nodup) (hx : x ∈ ks) : ks.Perm (x :: but ks x) := by
  refine (List.perm_ext_iff_of_nodup h (List.nodup_cons.2 ⟨fun e => (but_mem.1 e).1 rfl, h.sublist List.filter_sublist⟩)).2 fun z => ?_
  rw [List.mem_cons, but_mem]
  constructor
  · intro hz
    by_cases e : z = x
    · exact .inl e
    · exact .inr ⟨e, hz⟩
  · rintro (rfl | ⟨_, hz⟩)
    · exact hx
    · exact hz
theorem but_sum {ks : List ByteArray} {x : ByteArray} (h : ks.Nodup) (hx : x ∈ ks) (F : ByteArray → Nat) : (ks.map F).sum = F x + ((but ks x).map F).sum := by
  have := ((but_perm h hx).map F).sum_nat
  rw [this, List.map_cons, List.sum_cons]
set_option maxRecDepth 100000 in
/-- the step -/
theorem next_run {w : World} {g r N : Nat} {f : ByteArray → Option Nat} {D : DataW Unit} {ks : List ByteArray} {cnt : Nat} (h : Rg w g r N f D ks cnt) (ty : TypeId) :
    (ks = [] ∧ (Instr.next (.pointer (some ⟨r, 0, none⟩)) false ty).run Tryd.prog w = .ok (.tuple #[.bool false]) w) ∨
    ∃ x c w' cnt', x ∈ ks ∧ f x = some c ∧ (Instr.next (.pointer (some ⟨r, 0, none⟩)) false ty).run Tryd.prog w = .ok (.tuple #[.bool true, .string x, .pointer (some ⟨c, 0, none⟩)]) w' ∧ Rg w' g r N f D (but ks x) cnt' ∧ cnt' < cnt ∧ w.grownBy w' (some r) ∧
      w'.heap.size = w.heap.size ∧ (Instr.entry (.pointer (some ⟨r, 0, none⟩))).run Tryd.prog w' = .ok (.tuple #[.string x, .pointer (some ⟨c, 0, none⟩)]) w' := by
  obtain ⟨left, h1, h2⟩ := h.rgs
  rcases h1.next keyed ty with ⟨h0, hl, hrun⟩ | ⟨key, v, kl, y, w', cnt', hkey, hlk, hv, hat, hrun, hrg, hlt, hgr, hsz, hen⟩
  · left
    refine ⟨?_, hrun⟩
    cases ks with
    | nil => rfl
    | cons x ks =>
      have := (h2 x).2 (by simp)
      rw [hl] at this
      cases this
  · right
    obtain ⟨z, hz1, hz2, hz3⟩ := Maps.keyOf_str Tryd.underlying9 hkey
    obtain ⟨x, rfl⟩ : ∃ x : ByteArray, z = x.data.toList := ⟨⟨z.toArray⟩, by simp⟩
    subst hz2
    have hkx : key = .string x := by
      first | exact hz1 | (rw [hz1]; rfl) | simpa using hz1
    subst hkx
    have hx : x ∈ ks := (h2 x).1 hlk
    have hxs : x.size ≤ maxLen := by simpa using hz3
    have hask := h.ask.ask x hxs
    have hhas := h.ask.has x hxs
    rw [Maps.has_true_of_atKey hat] at hhas
    obtain ⟨c, hc⟩ := Option.isSome_iff_exists.1 hhas.symm
    rw [hc, hat] at hask
    have hvc : v = .pointer (some ⟨c, 0, none⟩) := rp_inv (o := some c) (ps := y.2) (by rw [hv]; exact congrArg some (Prod.ext hask rfl))
    subst hvc
    have hgb : w'.heap[g]? = w.heap[g]? := hgr.block g h.ask.own.lt (fun e => h.ne (Option.some.inj e).symm)
    refine ⟨x, c, w', cnt', hx, hc, hrun, ⟨h.ask.block hgb, ⟨_, hrg, fun z => ?_⟩, h.once.sublist List.filter_sublist, by rw [hsz]; exact h.rlt, h.ne⟩, hlt, hgr, hsz, hen⟩
    rw [but_mem, Bool.and_eq_true, h2 z]
    constructor
    · rintro ⟨hz, hs⟩
      refine ⟨fun e => ?_, hz⟩
      subst e
      simp [Lit.sameKey] at hs
    · rintro ⟨hne, hz⟩
      refine ⟨hz, ?_⟩
      rw [Maps.sameKey_ne (fun e => hne (data_inj (by injection e)))]
      rfl
end Trk
end Go.Proofs.YtkhkcfbacnkcnaaDoor
/- The program's Count. -/
namespace Go.Proofs.YtkhkcfbacnkcnaaDoor
open Go.RowKit Go.MapKept
namespace Trk
open Tre (Nm Th fi goT kidL)

theorem kids_of {t : List Th} {L : Nm → Nd} {p : Nm} (hW : Wf t) : (∀ x, x ∈ kidL t p ↔ (kb t L p x).isSome = true) ∧ ∀ x ∈ kidL t p, x.size ≤ maxLen :=
  ⟨fun y => by rw [kidL_mem hW.once]; unfold kb; cases T t (p ++ [y]) <;> simp, fun y hy => kid_size hW ((kidL_mem hW.once).1 hy)⟩
theorem kb_at {t : List Th} {L : Nm → Nd} {p : Nm} {x : ByteArray} {c : Nat} (h : kb t L p x = some c) : c = (L (p ++ [x])).b ∧ ∃ v, T t (p ++ [x]) = some v := by
  unfold kb at h
  cases hv : T t (p ++ [x]) with
  | none => rw [hv] at h; cases h
  | some v =>
    rw [hv] at h
    injection h with h
    exact ⟨h.symm, v, rfl⟩

end Trk
end Go.Proofs.YtkhkcfbacnkcnaaDoor
/- The library's bodies (maps.Keys, slices.Sorted, slices.Sort) as they stand in this program, in plain words. -/
namespace Go.Proofs
open Go.Shelf
def Tryd.keysA_ren : Go.Shelf.Ren := ⟨fun | 7 => 93 | 10 => 96 | n => n, fun | 23 => 43 | 26 => 9 | 3 => 59 | 28 => 124 | 0 => 0 | 27 => 123 | 33 => 82 | 4 => 4 | n => n, fun | n => n⟩
theorem Tryd.keysA : Go.Proofs.SlLaysZ.n7 Tryd.prog Tryd.keysA_ren := {
  mixed := by kernel_rfl
  f7 := ⟨Tryd.f93.name, by decide, Tryd.func93.trans (congrArg some (by kernel_rfl))⟩
  f10 := ⟨Tryd.f96.name, by decide, Tryd.func96.trans (congrArg some (by kernel_rfl))⟩
  t0 := Tryd.underlying0
  a0 := Tryd.isAgg0
  z0 := Tryd.sizeOf0
  v0 := Tryd.zeroValue0
  t4 := Tryd.underlying4
  a4 := Tryd.isAgg4
  z4 := Tryd.sizeOf4
  v4 := Tryd.zeroValue4
  t23 := Tryd.underlying43
  a23 := Tryd.isAgg43
  z23 := Tryd.sizeOf43
  v23 := Tryd.zeroValue43
  t26 := Tryd.underlying9
  a26 := Tryd.isAgg9
  z26 := Tryd.sizeOf9
  v26 := Tryd.zeroValue9
  t27 := Tryd.underlying123
  a27 := Tryd.isAgg123
  z27 := Tryd.sizeOf123
  v27 := Tryd.zeroValue123
  t28 := Tryd.underlying124
  a28 := Tryd.isAgg124
  z28 := Tryd.sizeOf124
  v28 := Tryd.zeroValue124
  t33 := Tryd.underlying82
  a33 := Tryd.isAgg82
  z33 := Tryd.sizeOf82
  v33 := Tryd.zeroValue82 }
def Tryd.sortedA_ren : Go.Shelf.Ren := ⟨fun | 6 => 92 | 8 => 94 | 9 => 95 | 11 => 97 | 13 => 99 | 12 => 98 | 23 => 109 | 24 => 110 | 14 => 100 | 15 => 101 | 16 => 102 | 17 => 103 | 18 => 104 | 19 => 105 | 20 => 106 | 21 => 107 | 22 => 108 | 25 => 111 | 26 => 112 | 27 => 113 | 28 => 114 | 29 => 115 | 30 => 116 | 31 => 117 | n => n, fun | 26 => 9 | 28 => 124 | 24 => 24 | 0 => 0 | 3 => 3 | 37 => 99 | 48 => 84 | 50 => 140 | 4 => 4 | 40 => 132 | 39 => 131 | 45 => 136 | 5 => 5 | 9 => 9 | 51 => 141 | 55 => 145 | 57 => 147 | 58 => 148 | 33 => 82 | n => n, fun | n => n⟩
theorem Tryd.sortedA : Go.Proofs.SlLaysZ.n6 Tryd.prog Tryd.sortedA_ren := {
  mixed := by kernel_rfl
  f6 := ⟨Tryd.f92.name, by decide, Tryd.func92.trans (congrArg some (by kernel_rfl))⟩
  f8 := ⟨Tryd.f94.name, by decide, Tryd.func94.trans (congrArg some (by kernel_rfl))⟩
  f11 := ⟨Tryd.f97.name, by decide, Tryd.func97.trans (congrArg some (by kernel_rfl))⟩
  t0 := Tryd.underlying0
  a0 := Tryd.isAgg0
  z0 := Tryd.sizeOf0
  v0 := Tryd.zeroValue0
  t24 := Tryd.underlying24
  a24 := Tryd.isAgg24
  z24 := Tryd.sizeOf24
  v24 := Tryd.zeroValue24
  t26 := Tryd.underlying9
  a26 := Tryd.isAgg9
  z26 := Tryd.sizeOf9
  v26 := Tryd.zeroValue9
  t28 := Tryd.underlying124
  a28 := Tryd.isAgg124
  z28 := Tryd.sizeOf124
  v28 := Tryd.zeroValue124
  i26 := by kernel_rfl }
def Tryd.sortA_ren : Go.Shelf.Ren := ⟨fun | 6 => 95 | 8 => 99 | 9 => 98 | 19 => 109 | 20 => 110 | 21 => 100 | 22 => 101 | 23 => 102 | 24 => 103 | 25 => 104 | 26 => 105 | 27 => 106 | 28 => 107 | 29 => 108 | 36 => 111 | 31 => 112 | 32 => 113 | 37 => 114 | 38 => 115 | 39 => 116 | 41 => 117 | n => n, fun | 27 => 24 | 29 => 9 | 3 => 3 | 32 => 99 | 26 => 24 | 0 => 0 | 44 => 84 | 46 => 140 | 4 => 4 | 36 => 132 | 35 => 131 | 41 => 136 | 5 => 5 | 9 => 9 | 53 => 141 | 57 => 145 | 63 => 147 | 64 => 148 | n => n, fun | n => n⟩
theorem Tryd.sortA : Go.Proofs.SlLaysM.n6 Tryd.prog Tryd.sortA_ren := {
  mixed := by kernel_rfl
  f6 := ⟨Tryd.f95.name, by decide, Tryd.func95.trans (congrArg some (by kernel_rfl))⟩
  f8 := Tryd.func99.trans (congrArg some (by kernel_rfl))
  f9 := ⟨Tryd.f98.name, by decide, Tryd.func98.trans (congrArg some (by kernel_rfl))⟩
  f19 := Tryd.func109.trans (congrArg some (by kernel_rfl))
  f20 := Tryd.func110.trans (congrArg some (by kernel_rfl))
  f21 := ⟨Tryd.f100.name, by decide, Tryd.func100.trans (congrArg some (by kernel_rfl))⟩
  f22 := ⟨Tryd.f101.name, by decide, Tryd.func101.trans (congrArg some (by kernel_rfl))⟩
  f23 := ⟨Tryd.f102.name, by decide, Tryd.func102.trans (congrArg some (by kernel_rfl))⟩
  f24 := ⟨Tryd.f103.name, by decide, Tryd.func103.trans (congrArg some (by kernel_rfl))⟩
  f25 := ⟨Tryd.f104.name, by decide, Tryd.func104.trans (congrArg some (by kernel_rfl))⟩
  f26 := ⟨Tryd.f105.name, by decide, Tryd.func105.trans (congrArg some (by kernel_rfl))⟩
  f27 := ⟨Tryd.f106.name, by decide, Tryd.func106.trans (congrArg some (by kernel_rfl))⟩
  f28 := ⟨Tryd.f107.name, by decide, Tryd.func107.trans (congrArg some (by kernel_rfl))⟩
  f29 := ⟨Tryd.f108.name, by decide, Tryd.func108.trans (congrArg some (by kernel_rfl))⟩
  f31 := Tryd.func112.trans (congrArg some (by kernel_rfl))
  f32 := Tryd.func113.trans (congrArg some (by kernel_rfl))
  f36 := ⟨Tryd.f111.name, by decide, Tryd.func111.trans (congrArg some (by kernel_rfl))⟩
  f37 := ⟨Tryd.f114.name, by decide, Tryd.func114.trans (congrArg some (by kernel_rfl))⟩
  f38 := ⟨Tryd.f115.name, by decide, Tryd.func115.trans (congrArg some (by kernel_rfl))⟩
  f39 := ⟨Tryd.f116.name, by decide, Tryd.func116.trans (congrArg some (by kernel_rfl))⟩
  f41 := ⟨Tryd.f117.name, by decide, Tryd.func117.trans (congrArg some (by kernel_rfl))⟩
  t0 := Tryd.underlying0
  a0 := Tryd.isAgg0
  z0 := Tryd.sizeOf0
  v0 := Tryd.zeroValue0
  t3 := Tryd.underlying3
  a3 := Tryd.isAgg3
  z3 := Tryd.sizeOf3
  v3 := Tryd.zeroValue3
  t4 := Tryd.underlying4
  a4 := Tryd.isAgg4
  z4 := Tryd.sizeOf4
  v4 := Tryd.zeroValue4
  t5 := Tryd.underlying5
  a5 := Tryd.isAgg5
  z5 := Tryd.sizeOf5
  v5 := Tryd.zeroValue5
  t9 := Tryd.underlying9
  a9 := Tryd.isAgg9
  z9 := Tryd.sizeOf9
  v9 := Tryd.zeroValue9
  t26 := Tryd.underlying24
  a26 := Tryd.isAgg24
  z26 := Tryd.sizeOf24
  v26 := Tryd.zeroValue24
  t27 := Tryd.underlying24
  a27 := Tryd.isAgg24
  z27 := Tryd.sizeOf24
  v27 := Tryd.zeroValue24
  t29 := Tryd.underlying9
  a29 := Tryd.isAgg9
  z29 := Tryd.sizeOf9
  v29 := Tryd.zeroValue9
  t32 := Tryd.underlying99
  a32 := Tryd.isAgg99
  z32 := Tryd.sizeOf99
  v32 := Tryd.zeroValue99
  t35 := Tryd.underlying131
  a35 := Tryd.isAgg131
  z35 := Tryd.sizeOf131
  v35 := Tryd.zeroValue131
  t36 := Tryd.underlying132
  a36 := Tryd.isAgg132
  z36 := Tryd.sizeOf132
  v36 := Tryd.zeroValue132
  t41 := Tryd.underlying136
  a41 := Tryd.isAgg136
  z41 := Tryd.sizeOf136
  v41 := Tryd.zeroValue136
  t44 := Tryd.underlying84
  a44 := Tryd.isAgg84
  z44 := Tryd.sizeOf84
  v44 := Tryd.zeroValue84
  t46 := Tryd.underlying140
  a46 := Tryd.isAgg140
  z46 := Tryd.sizeOf140
  v46 := Tryd.zeroValue140
  t53 := Tryd.underlying141
  a53 := Tryd.isAgg141
  z53 := Tryd.sizeOf141
  v53 := Tryd.zeroValue141
  t57 := Tryd.underlying145
  a57 := Tryd.isAgg145
  z57 := Tryd.sizeOf145
  v57 := Tryd.zeroValue145
  t63 := Tryd.underlying147
  a63 := Tryd.isAgg147
  z63 := Tryd.sizeOf147
  v63 := Tryd.zeroValue147
  t64 := Tryd.underlying148
  a64 := Tryd.isAgg148
  z64 := Tryd.sizeOf148
  v64 := Tryd.zeroValue148 }
end Go.Proofs
/- The program's List: a directory's names, rising. -/
namespace Go.Proofs.YtkhkcfbacnkcnaaDoor
open Go.RowKit Go.Maps Go.Sort Go.Shelf
namespace Trk
open Tre (Nm Th goT dirT kidL kidT listT)

theorem sortsA (m : Nat) : AnyZ.SortsIn Tryd.prog Tryd.sortedA_ren Fence.wide m :=
  ⟨fun blk off cap ss W hH hblk hsz => callsIn_wide.2 (AnyM.slices_Sort_string Tryd.sortA blk off cap ss W hH hblk hsz),
   fun p cap W => callsIn_wide.2 (AnyM.slices_Sort_string_none Tryd.sortA p cap W)⟩
theorem keys_call (mb : Option Nat) (W : World) : Calls Tryd.prog 93 #[.map mb] W fun e w' =>
    e = .returned (.func (.func 96) #[] #[.pointer (some ⟨W.heap.size, 0, none⟩)]) ∧ w' = W.alloc (.cells #[.map mb] 43) :=
  (callsIn_wide (n := 5)).1 (AnyZ.keys_in Tryd.keysA Fence.wide 5 trivial rfl mb W)
/-- names that are answered, in a new row -/
def RowR (w : World) (l : List ByteArray) (e : Ending) (w' : World) : Prop := ∃ (A : Option Addr) (c : Nat), e = .returned (.slice A l.length c) ∧ w'.ownsRow w.heap.size 9 1 (.slice A l.length c) l.length (Pat.strs l) ∧ Below w.heap.size w w'
set_option maxHeartbeats 1000000 in
theorem sorted_some {w : World} {g N : Nat} {f : ByteArray → Option Nat} {D : DataW Unit} (h : Ask w g N f D) (hs : Maps.size D ≤ 1000000) :
    Calls Tryd.prog 92 #[.func (.func 96) #[] #[.pointer (some ⟨w.heap.size, 0, none⟩)]] (w.alloc (.cells #[.map (some g)] 43)) fun e w' =>
      ∃ (v : Value) (ss : List (List UInt8)), e = .returned v ∧ ss.Perm (strKeys D) ∧ w'.ownsRow (w.heap.size + 1) 9 1 v ss.length ((ss.mergeSort (fun x y => decide (x ≤ y))).map encStr) ∧ Below (w.heap.size + 1) (w.alloc (.cells #[.map (some g)] 43)) w' := by
  have hown := h.own
  have hbl := hown.lt
  have hseq : SeqGives Fence.wide 2 Tryd.prog 96 #[.pointer (some ⟨w.heap.size, 0, none⟩)] encStr (fun ss => ss.Perm (strKeys D)) (Maps.size D) (w.alloc (.cells #[.map (some g)] 43)) :=
    AnyZ.keys_gives (ρ := Tryd.keysA_ren) { Tryd.keysA with } Fence.wide _ trivial rfl (by omega) w.heap.size g N D _ (by simp) (by simp) (by
      obtain ⟨es, clock, hb, Ft, hs, hD⟩ := hown
      exact ⟨es, clock, (Below.heap_alloc _ _ _ hbl).trans hb, Ft, hs, hD⟩)
  have cS := AnyZ.sorted_in Tryd.sortedA Fence.wide 5 trivial trivial trivial trivial rfl (by omega) (sortsA _) (enters_of Tryd.func95 (by kernel_rfl) rfl) 96 #[.pointer (some ⟨w.heap.size, 0, none⟩)] trivial (enters_of Tryd.func96 (by kernel_rfl) rfl) _ _ (by unfold maxLen; omega) (by omega) _ hseq
  change CallsIn _ _ Tryd.prog 92 _ _ _ at cS
  refine ((callsIn_wide (n := 5)).1 cS).mono ?_
  rintro e w' ⟨v, ss, rfl, hS, hrow, _, hb⟩
  rw [World.size_alloc] at hrow hb
  exact ⟨v, ss, rfl, hS, hrow, hb⟩
set_option maxHeartbeats 1000000 in
theorem sorted_none (w : World) :
    Calls Tryd.prog 92 #[.func (.func 96) #[] #[.pointer (some ⟨w.heap.size, 0, none⟩)]] (w.alloc (.cells #[.map none] 43)) fun e w' =>
      ∃ (v : Value), e = .returned v ∧ w'.ownsRow (w.heap.size + 1) 9 1 v 0 [] ∧ Below (w.heap.size + 1) (w.alloc (.cells #[.map none] 43)) w' := by
  have hseq : SeqGives Fence.wide 2 Tryd.prog 96 #[.pointer (some ⟨w.heap.size, 0, none⟩)] encStr (fun ss : List (List UInt8) => ss = []) 0 (w.alloc (.cells #[.map none] 43)) :=
    AnyZ.keys_gives_nil (ρ := Tryd.keysA_ren) { Tryd.keysA with } Fence.wide _ trivial rfl w.heap.size _ (by simp) (by simp)
  have cS := AnyZ.sorted_in Tryd.sortedA Fence.wide 5 trivial trivial trivial trivial rfl (by omega) (sortsA _) (enters_of Tryd.func95 (by kernel_rfl) rfl) 96 #[.pointer (some ⟨w.heap.size, 0, none⟩)] trivial (enters_of Tryd.func96 (by kernel_rfl) rfl) _ 0 (Nat.zero_le _) (by omega) _ hseq
  change CallsIn _ _ Tryd.prog 92 _ _ _ at cS
  refine ((callsIn_wide (n := 5)).1 cS).mono ?_
  rintro e w' ⟨v, ss, rfl, rfl, hrow, _, hb⟩
  rw [World.size_alloc] at hrow hb
  have hrow' : w'.ownsRow (w.heap.size + 1) 9 1 v 0 (List.map encStr ([].mergeSort fun x y => decide (x ≤ y))) := hrow
  rw [List.mergeSort_nil, List.map_nil] at hrow'
  exact ⟨v, rfl, hrow', hb⟩
theorem row_slice1 {W : World} {B n : Nat} {e : TypeId} {v : Value} {xs : List Value} (h : W.ownsRow B e 1 v n xs) : ∃ A c, v = .slice A n c := by
  rcases h.2 with ⟨rfl, rfl⟩ | ⟨g, cap, cur, rfl, _⟩
  · exact ⟨none, 0, rfl⟩
  · exact ⟨_, _, rfl⟩

set_option maxRecDepth 100000 in
set_option maxHeartbeats 1000000 in
theorem tlist_any (w : World) (N : Nat) (t : List Th) (L : Nm → Nd) (p : Nm) (x : Nd) (d : Bool) (s : ByteArray) (h : Nod w N x (kb t L p) d s) (hW : Wf t) (hl : t.length ≤ 1000000) :
    Calls Tryd.prog 90 #[.pointer (some ⟨x.b, 0, none⟩)] w (RowR w (kidT t p)) := by
  have h2 := h.c2
  have hk := h.map
  cases hm : x.m with
  | none =>
    rw [hm] at h2 hk
    have h0 : kidT t p = [] := by
      cases hl' : kidT t p with
      | nil => rfl
      | cons y r =>
        have hy : y ∈ kidL t p := (kidT_perm t p).mem_iff.1 (by rw [hl']; simp)
        have := ((kids_of (L := L) hW).1 y).1 hy
        rw [hk y] at this
        cases this
    have HK := Lib.hid (keys_call none w)
    have HS := Lib.hid (sorted_none w)
    have H0 := Lib.hid h0
    clear hk h0 h
    go_enter Tryd.func90, Tryd.ntmps90
    go_wp2_with fail
    refine HK.out.mono ?_
    rintro e w1 ⟨rfl, rfl⟩
    go_wp2_with fail
    refine HS.out.mono ?_
    rintro e w2 ⟨v, rfl, ho, hb⟩
    obtain ⟨A, c, rfl⟩ := row_slice1 ho
    have HR := Lib.hid (show RowR w (kidT t p) (.returned (.slice A 0 c)) w2 from ⟨A, c, by rw [H0.out]; rfl, by rw [H0.out]; exact own_low ho (Nat.le_succ _), ((Below.refl _ w).alloc (Nat.le_refl _) _).trans (hb.mono (Nat.le_succ _))⟩)
    clear ho hb
    go_wp2
    go_ret
    exact HR.out
  | some g =>
    rw [hm] at h2 hk
    obtain ⟨D, hD⟩ := hk
    obtain ⟨hperm, hsz⟩ := hD.keys (kidL_once hW.once p) (kids_of hW).1 (kids_of (L := L) hW).2
    have hlen : (kidL t p).length ≤ t.length := by
      unfold Tre.kidL
      rw [List.length_map]
      exact List.length_filter_le _ _
    have HK := Lib.hid (keys_call (some g) w)
    have HS := Lib.hid (sorted_some hD (by omega))
    have HP := Lib.hid hperm
    clear hD hperm hsz hlen h
    go_enter Tryd.func90, Tryd.ntmps90
    go_wp2_with fail
    refine HK.out.mono ?_
    rintro e w1 ⟨rfl, rfl⟩
    go_wp2_with fail
    refine HS.out.mono ?_
    rintro e w2 ⟨v, ss, rfl, hss, ho, hb⟩
    have hks := keys_kidT hW.once p (hss.trans HP.out.symm)
    have hst : (ss.mergeSort (fun x y => decide (x ≤ y))).map encStr = Pat.strs (kidT t p) := by
      rw [← hks]
      unfold Pat.strs
      rw [List.map_map]
      rfl
    have hln : ss.length = (kidT t p).length := by rw [← hks, List.length_map, List.length_mergeSort]
    rw [hst, hln] at ho
    obtain ⟨A, c, rfl⟩ := row_slice1 ho
    have HR := Lib.hid (show RowR w (kidT t p) (.returned (.slice A (kidT t p).length c)) w2 from ⟨A, c, rfl, own_low ho (Nat.le_succ _), ((Below.refl _ w).alloc (Nat.le_refl _) _).trans (hb.mono (Nat.le_succ _))⟩)
    clear ho hb hst hln hks hss
    generalize (kidT t p).length = m at *
    go_wp2
    go_ret
    exact HR.out

theorem listT_no {t : List Th} {p : ByteArray} (h : dirE t p ≠ 0) : listT t p = ([], dirE t p) := by
  unfold dirE at h
  unfold dirE Tre.listT
  cases hs : Pat.spl p with
  | none => rfl
  | some n =>
    rw [hs] at h
    simp only at h ⊢
    by_cases hg : goT t n ≠ 0
    · rw [if_pos hg, if_pos hg]
    · rw [if_neg hg] at h ⊢
      rw [if_neg hg]
      by_cases hd : dirT t n = false
      · rw [if_pos hd, if_pos hd]
      · rw [if_neg hd] at h
        exact absurd rfl h
theorem listT_yes {t : List Th} {p : ByteArray} {n : Nm} {s : ByteArray} (h : IsDir t p n s) : listT t p = (kidT t n, 0) := by
  unfold Tre.listT
  rw [h.spl]
  simp only [h.go, h.dir]
  simp
set_option maxRecDepth 100000 in
set_option maxHeartbeats 1000000 in
theorem list_any (w : World) (N b0 : Nat) (t : List Th) (L : Nm → Nd) (p : ByteArray) (hM : Mem w N t L) (hb : (L []).b = b0) (hW : Wf t) (hp : p.size < 4294967281) (hl : t.length ≤ 1000000) :
    Calls Tryd.prog 87 #[.pointer (some ⟨b0, 0, none⟩), .string p] w fun e w' => ∃ (A : Option Addr) (c : Nat), e = .returned (.tuple #[.slice A (listT t p).1.length c, .int .i64 (listT t p).2]) ∧ w'.ownsRow w.heap.size 9 1 (.slice A (listT t p).1.length c) (listT t p).1.length (Pat.strs (listT t p).1) ∧ Below w.heap.size w w' := by
  have HM := Lib.hid hM
  clear hM
  go_enter Tryd.func87, Tryd.ntmps87
  go_wp2_with fail
  refine (dirAt_any w N b0 t L p HM.out hb hp).mono ?_
  rintro e w1 ⟨hf, hb1⟩
  have HB1 := Lib.hid hb1
  have HM1 := Lib.hid (HM.out.keep hb1)
  clear hb1
  rcases hf with ⟨he, rfl⟩ | ⟨n, s, hf, rfl⟩
  · have HZ := Lib.hid (listT_no he)
    generalize hg : dirE t p = g at *
    clear hg
    go_wp2
    refine bodyPost_ret (v := .tuple #[.slice none 0 0, .int .i64 g]) ?_ rfl ⟨none, 0, by rw [HZ.out]; rfl, by rw [HZ.out]; exact World.ownsRow_nil _ _ _ _, HB1.out⟩
    simp [results, Tryd.results87, go_sem]
  · have HZ := Lib.hid (listT_yes hf)
    have HL := Lib.hid (tlist_any w1 N t L n (L n) true s (HM1.out.nod _ _ _ hf.at') hW hl)
    clear hf
    generalize L n = y at *
    go_wp2_with fail
    refine HL.out.mono ?_
    rintro e w2 ⟨A, c, rfl, ho, hb2⟩
    have HO := Lib.hid (own_low ho HB1.out.size)
    have HB2 := Lib.hid (HB1.out.trans (hb2.mono HB1.out.size))
    clear ho hb2
    generalize hk : kidT t n = k at *
    clear hk
    generalize hm : k.length = m at *
    have HMM := Lib.hid hm
    clear hm
    go_wp2
    refine bodyPost_ret (v := .tuple #[.slice A m c, .int .i64 0]) ?_ rfl ⟨A, c, by rw [HZ.out, HMM.out], by rw [HZ.out, HMM.out]; exact HO.out, HB2.out⟩
    simp [results, Tryd.results87, go_sem]
end Trk
end Go.Proofs.YtkhkcfbacnkcnaaDoor
/- The document's Join. -/
namespace Go.Proofs.YtkhkcfbacnkcnaaDoor
open Go.RowKit Go.MapKept Go.Shelf
namespace Pat

/-- what the document's Join answers -/
def jnr (l : List ByteArray) : Value := if IsNames l then .tuple #[.string (pth l), .bool true] else .tuple #[.string ByteArray.empty, .bool false]

theorem tail_next {l : List ByteArray} {k : Nat} (hk : k < l.length) {t : ByteArray} (h : t.data.toList = Lib.joinTail [47] ((l.take k).map (·.data.toList))) :
    (t ++ ⟨#[47]⟩ ++ l[k]).data.toList = Lib.joinTail [47] ((l.take (k + 1)).map (·.data.toList)) := by
  rw [List.take_succ_eq_append_getElem hk, List.map_append, List.map_cons, List.map_nil, joinTail_snoc, ← h, ByteArray.data_append, ByteArray.data_append]
  simp

end Pat
end Go.Proofs.YtkhkcfbacnkcnaaDoor
/- How many bytes a file, names a directory has; names' path; whether acts are few. -/
namespace Go.Proofs.YtkhkcfbacnkcnaaDoor
open Go.RowKit Go.MapKept
namespace Tre
open Pat (Txs)

/-- how many bytes a file, names a directory has, whether it is one, the error -/
def sizeT (t : List Th) (p : ByteArray) : Int × Bool × Int :=
  match Pat.spl p with
  | none => (0, false, 3)
  | some n => if goT t n ≠ 0 then (0, false, goT t n) else match fi t n with
    | some i => if isDirAt t i = true then ((kidT t n).length, true, 0) else ((datT t i).size, false, 0)
    | none => ((kidT t n).length, true, 0)

/-- the path of names that may be -/
def jnT (n : Nm) : ByteArray := if Pat.IsNames n then Pat.pth n else ByteArray.empty
/-- an act: its kind, path, place, number, bytes -/
structure Ac where
  k : Nat
  p : ByteArray
  x : Int
  n : Int
  a : Option Addr
  c : Nat
  b : List Nat
/-- acts as they lie -/
structure Acs (w : World) (A : Option Addr) (l : List Ac) : Prop where
  len : l.length ≤ 9223372036854775807
  ok : ∀ g ∈ l, g.k < 256 ∧ g.p.size ≤ 9223372036854775807 ∧ g.b.length ≤ g.c ∧ Crc.Bts w g.a g.b ∧ (g.a = none → g.c = 0) ∧ g.x ≤ 9223372036854775807 ∧ g.n ≤ 9223372036854775807
  at' : ∀ j (h : j < l.length), ∃ b o, A = some ⟨b, o, none⟩ ∧ b < w.heap.size ∧ w.cell? ⟨b, o + j * 5, none⟩ = some (.int .u8 (l[j].k : Int)) ∧ w.cell? ⟨b, o + j * 5 + 1, none⟩ = some (.string l[j].p) ∧ w.cell? ⟨b, o + j * 5 + 2, none⟩ = some (.int .i64 l[j].x) ∧ w.cell? ⟨b, o + j * 5 + 3, none⟩ = some (.int .i64 l[j].n) ∧ w.cell? ⟨b, o + j * 5 + 4, none⟩ = some (.slice l[j].a l[j].b.length l[j].c)
theorem Acs.keep {w w' : World} {A : Option Addr} {l : List Ac} (h : Acs w A l) (hb : Below w.heap.size w w') : Acs w' A l :=
  ⟨h.len, fun g hg => by
    obtain ⟨h1, h2, h3, h4, h5⟩ := h.ok g hg
    exact ⟨h1, h2, h3, h4.keep hb, h5⟩, fun j hj => by
    obtain ⟨b, o, e, hlt, h0, h1, h2, h3, h4⟩ := h.at' j hj
    exact ⟨b, o, e, Nat.lt_of_lt_of_le hlt hb.size, (hb.cell (p := ⟨b, o + j * 5, none⟩) hlt).trans h0, (hb.cell (p := ⟨b, o + j * 5 + 1, none⟩) hlt).trans h1, (hb.cell (p := ⟨b, o + j * 5 + 2, none⟩) hlt).trans h2, (hb.cell (p := ⟨b, o + j * 5 + 3, none⟩) hlt).trans h3, (hb.cell (p := ⟨b, o + j * 5 + 4, none⟩) hlt).trans h4⟩⟩
/-- little -/
def Lit (g : Ac) : Prop := g.p.size ≤ 300 ∧ g.b.length ≤ 500 ∧ ¬ (1500 < g.x ∧ g.x ≤ 268435456)
instance (g : Ac) : Decidable (Lit g) := by unfold Lit; infer_instance
def FewA (l : List Ac) : Prop := (∀ g ∈ l, Lit g) ∧ l.length ≤ 40
instance (l : List Ac) : Decidable (FewA l) := by unfold FewA; infer_instance
def fewA (l : List Ac) : Bool := decide (FewA l)

end Tre
end Go.Proofs.YtkhkcfbacnkcnaaDoor
/- The program's Size. -/
namespace Go.Proofs.YtkhkcfbacnkcnaaDoor
open Go.RowKit Go.MapKept
namespace Trk
open Tre (Nm Th fi isDirAt datT goT dirT kidL kidT sizeT)

theorem sizeT_no {t : List Th} {p : ByteArray} (h : ge t p ≠ 0) : sizeT t p = (0, false, ge t p) := by
  unfold ge at *
  unfold Tre.sizeT
  cases hs : Pat.spl p with
  | none => rfl
  | some n =>
    rw [hs] at h
    simp only at h ⊢
    rw [if_pos h]
theorem sizeT_yes {t : List Th} (hW : Wf t) {p : ByteArray} {n : Nm} {d : Bool} {s : ByteArray} (hs : Pat.spl p = some n) (hg : goT t n = 0) (hv : T t n = some (d, s)) : sizeT t p = if d = true then (((kidT t n).length : Int), true, 0) else ((s.size : Int), false, 0) := by
  unfold Tre.sizeT
  rw [hs]
  simp only
  rw [if_neg (fun h => h hg)]
  by_cases h0 : n = []
  · rw [h0, T_root] at hv
    injection hv with hv
    injection hv with h1 h2
    subst h1
    cases hf : fi t n with
    | none => rfl
    | some i =>
      obtain ⟨hi, h3, _⟩ := Tre.fi_some hf
      exact absurd (h3.trans h0) (hW.nm _ (List.getElem_mem hi)).1
  · obtain ⟨i, hi⟩ := fi_of_T h0 hv
    obtain ⟨hl, h2⟩ := T_fi h0 hi
    rw [hv] at h2
    injection h2 with h2
    rw [hi]
    have hd : isDirAt t i = d := by unfold Tre.isDirAt; rw [List.getElem?_eq_getElem hl]; exact (congrArg Prod.fst h2).symm
    have hs' : datT t i = s := by unfold Tre.datT; rw [List.getElem?_eq_getElem hl]; exact (congrArg Prod.snd h2).symm
    simp only [hd, hs']

end Trk
end Go.Proofs.YtkhkcfbacnkcnaaDoor
/- An act on the document's tree. -/
namespace Go.Proofs.YtkhkcfbacnkcnaaDoor
open Go.RowKit Go.MapKept
namespace Tre
open Pat (Txs)

/-- what an act makes of a tree; its error, the bytes, the names that are answered -/
def doT (t : List Th) (k : Nat) (p : ByteArray) (x n : Int) (v : ByteArray) : List Th × Int × ByteArray × List ByteArray :=
  if k % 8 = 0 then ((addT t p false).1, (addT t p false).2, ⟨#[]⟩, []) else
  if k % 8 = 1 then ((addT t p true).1, (addT t p true).2, ⟨#[]⟩, []) else
  if k % 8 = 2 then ((writeT t p x v).1, (writeT t p x v).2, ⟨#[]⟩, []) else
  if k % 8 = 3 then ((truncT t p x).1, (truncT t p x).2, ⟨#[]⟩, []) else
  if k % 8 = 4 then ((unlinkT t p).1, (unlinkT t p).2, ⟨#[]⟩, []) else
  if k % 8 = 5 then ((rmdirT t p).1, (rmdirT t p).2, ⟨#[]⟩, []) else
  if k % 8 = 6 then (t, (readT t p x n).2, (readT t p x n).1, []) else (t, (listT t p).2, ⟨#[]⟩, (listT t p).1)
/-- the answer of an act: a tree, a number, a text, names -/
def DoR (w : World) (A0 : Option Addr) (l0 : List Tg) (r : List Th × Int × ByteArray × List ByteArray) (e : Ending) (w' : World) : Prop :=
  ∃ (A : Option Addr) (c : Nat) (l : List Tg) (G : Option Addr) (gc : Nat), e = .returned (.tuple #[tv A l.length c, .int .i64 r.2.1, .string r.2.2.1, .slice G r.2.2.2.length gc]) ∧ Ths w' A l ∧ ths l = r.1 ∧ (A = none → c = 0) ∧ l.length ≤ c ∧ (Txs w' G r.2.2.2 ∧ Fr w G) ∧ Below w.heap.size w w' ∧ ∀ b, b < w.heap.size → Apart b A0 l0 → Apart b A l
/-- the tree's box, the act's, the answer's block -/
theorem bx_three (w : World) (v u : Value) (xs : Array Value) (t t' t2 : TypeId) : Bx (((w.alloc (.cells #[v] t)).alloc (.cells xs t2)).alloc (.cells #[u] t')) w.heap.size (w.heap.size + 1 + 1) v u := by
  have e : ((w.alloc (.cells #[v] t)).alloc (.cells xs t2)).heap.size = w.heap.size + 1 + 1 := by simp
  have r := World.rowIs_alloc ((w.alloc (.cells #[v] t)).alloc (.cells xs t2)) #[u] t' (fun _ => u) (fun j hj => by
    have : j < 1 := hj
    match j, this with
    | 0, _ => rfl)
  rw [e] at r
  exact ⟨by simp; omega, by simp, by rw [World.cell?_alloc_old _ _ _ (by simp; omega), World.cell?_alloc_old _ _ _ (by simp)]; exact Crc.alloc_cell w #[v] t 0, r.cell (by simp), r.frozen 0⟩

/-- behind a call that answers a tree and a number: stored in the answer's block, copied into a block of v's own -/
theorem do_fin {w w1 w2 : World} {A A' : Option Addr} {c' b1 : Nat} {l l' : List Tg} {r : List Th × Int} (HB0 : Below w.heap.size w w1) (hb1 : b1 = w.heap.size + 1 + 1) (hl1 : b1 < w1.heap.size) (ha1 : Apart b1 A l) (ht : Ths w2 A' l') (hl' : ths l' = r.1) (hA' : A' = none → c' = 0) (hc' : l'.length ≤ c') (hb : Below w1.heap.size w1 w2) (hap : ∀ b, b < w1.heap.size → Apart b A l → Apart b A' l') (O : Obj) :
    DoR w A l (r.1, r.2, ⟨#[]⟩, []) (.returned (.tuple #[tv A' l'.length c', .int .i64 r.2, .string ⟨#[]⟩, .slice none 0 0])) ((w2.setCell ⟨b1, 0, none⟩ (.slice A' l'.length c')).alloc O) := by
  have hz := (HB0.trans (hb.mono HB0.size)).setCell (p := ⟨b1, 0, none⟩) (by simp only; omega) (.slice A' l'.length c')
  exact ⟨A', c', l', none, 0, rfl, (ths_set ht (hap b1 hl1 ha1) 0 _).keep ((Below.refl _ _).alloc (Nat.le_refl _) _), hl', hA', hc', ⟨Pat.txs_nil _ _, fr_none w⟩, hz.alloc hz.size _, fun b hb4 ha => hap b (Nat.lt_of_lt_of_le hb4 HB0.size) ha⟩

/-- names stay where a cell that is no text is stored -/
theorem txs_put {w : World} {G : Option Addr} {n : List ByteArray} {b : Nat} {v : Value} (h : Txs w G n) (hc : w.cell? ⟨b, 0, none⟩ = some v) (hv : ∀ s, v ≠ .string s) (u : Value) : Txs (w.setCell ⟨b, 0, none⟩ u) G n :=
  ⟨h.size, h.len, fun j hj => by
    obtain ⟨b', o', e, hlt, hx⟩ := h.at' j hj
    refine ⟨b', o', e, by simpa [World.setCell] using hlt, ?_⟩
    rw [World.cell?_setCell_other _ _ _ _ (fun e => by
      have hc2 := hc
      first
        | rw [e, hx] at hc2
          injection hc2 with hc2
          exact hv _ hc2.symm
        | rw [← e, hx] at hc2
          injection hc2 with hc2
          exact hv _ hc2.symm)]
    exact hx⟩
/-- behind a call that answers no tree: the tree stored in the answer's block as it is -/
theorem do_fin2 {w w2 : World} {A G : Option Addr} {c q b1 gc : Nat} {l : List Tg} {names : List ByteArray} (h : Ths w A l) (hq : l.length = q) (hA : A = none → c = 0) (hc : q ≤ c) (hb : Below w.heap.size w w2) (hb1 : b1 = w.heap.size + 1 + 1) (hc1 : w2.cell? ⟨b1, 0, none⟩ = some (.slice none 0 0)) (hn : Txs w2 G names) (hfr : Fr w G) (z : Int) (s : ByteArray) :
    DoR w A l (ths l, z, s, names) (.returned (.tuple #[tv A q c, .int .i64 z, .string s, .slice G names.length gc])) (w2.setCell ⟨b1, 0, none⟩ (.slice A q c)) := by
  have hz := hb.setCell (p := ⟨b1, 0, none⟩) (by simp only; omega) (.slice A q c)
  exact ⟨A, c, l, G, gc, by rw [hq], h.keep hz, rfl, hA, by omega, ⟨txs_put hn hc1 (fun s e => by cases e) _, hfr⟩, hz, fun _ _ ha => ha⟩

end Tre
end Go.Proofs.YtkhkcfbacnkcnaaDoor
/- Whether a tree's items are the document's, in order. -/
namespace Go.Proofs.YtkhkcfbacnkcnaaDoor
open Go.RowKit Go.MapKept
namespace Tre
open Pat (Txs)

/-- an item of a tree: a path, whether it is a directory, bytes -/
structure It where
  p : ByteArray
  d : Bool
  a : Option Addr
  c : Nat
  b : List Nat
/-- items as they lie -/
structure Its (w : World) (A : Option Addr) (l : List It) : Prop where
  len : l.length ≤ 9223372036854775807
  ok : ∀ g ∈ l, g.p.size ≤ 9223372036854775807 ∧ g.b.length ≤ g.c ∧ Crc.Bts w g.a g.b ∧ (g.a = none → g.c = 0)
  at' : ∀ j (h : j < l.length), ∃ b o, A = some ⟨b, o, none⟩ ∧ b < w.heap.size ∧ w.cell? ⟨b, o + j * 3, none⟩ = some (.string l[j].p) ∧ w.cell? ⟨b, o + j * 3 + 1, none⟩ = some (.bool l[j].d) ∧ w.cell? ⟨b, o + j * 3 + 2, none⟩ = some (.slice l[j].a l[j].b.length l[j].c)
theorem Its.keep {w w' : World} {A : Option Addr} {l : List It} (h : Its w A l) (hb : Below w.heap.size w w') : Its w' A l :=
  ⟨h.len, fun g hg => by
    obtain ⟨h1, h2, h3, h4⟩ := h.ok g hg
    exact ⟨h1, h2, h3.keep hb, h4⟩, fun j hj => by
    obtain ⟨b, o, e, hlt, h0, h1, h2⟩ := h.at' j hj
    exact ⟨b, o, e, Nat.lt_of_lt_of_le hlt hb.size, (hb.cell (p := ⟨b, o + j * 3, none⟩) hlt).trans h0, (hb.cell (p := ⟨b, o + j * 3 + 1, none⟩) hlt).trans h1, (hb.cell (p := ⟨b, o + j * 3 + 2, none⟩) hlt).trans h2⟩⟩
/-- an item is a thing's -/
def eqI (g : It) (x : Th) : Prop := g.p = jnT x.1 ∧ g.d = x.2.1 ∧ Crc.str g.b = x.2.2
instance (g : It) (x : Th) : Decidable (eqI g x) := by unfold eqI; infer_instance
/-- items are the things of a tree, in order -/
def smT (its : List It) (t : List Th) : Bool := decide (its.length = (allT t).length ∧ ∀ j, (h : j < its.length) → (h2 : j < (allT t).length) → eqI its[j] (allT t)[j])

end Tre
end Go.Proofs.YtkhkcfbacnkcnaaDoor
/- The items that the program has found, and the names that lead to a directory, as they lie while it looks on. -/
namespace Go.Proofs.YtkhkcfbacnkcnaaDoor
open Go.RowKit Go.MapKept
namespace Trk
open Tre (Nm Th It Its eqI smT allT jnT kidL kidT)

/-- a name more behind names: in their row, or in a new one -/
theorem app_keep {W : World} {B n c : Nat} {u : Value} {l : List ByteArray} (h : W.ownsRow B 9 1 u n (Pat.strs l)) (s : ByteArray) {ad : Addr} (had : W.cell? ad = some (.string s)) (hn : n ≤ 1000) (hB : B ≤ W.heap.size) :
    ∃ u' w', (Builtin.append_ #[24, 24] 24 #[u, .slice (some ad) 1 c]).run Tryd.prog W = .ok u' w' ∧ w'.ownsRow B 9 1 u' (n + 1) (Pat.strs (l ++ [s])) ∧ W.grownBy w' u.ownBlock ∧
      ((∃ g cap, u = .slice (some ⟨g, 0, none⟩) n cap ∧ u' = .slice (some ⟨g, 0, none⟩) (n + 1) cap) ∨ (W.grownBy w' none ∧ u'.ownBlock = some W.heap.size)) := by
  obtain ⟨i0, hi0, hz0, hz1, hz2⟩ := Pat.info_parts Pat.str_info
  have hln : l.length = n := by have := h.1; simpa [Pat.strs] using this
  have hst : Pat.strs (l ++ [s]) = Pat.strs l ++ [.string s] := by simp [Pat.strs]
  have hnews : ∀ j v, [Value.string s][j]? = some v → W.cell? (ad.add j) = some v := fun j v hj => by
    match j, hj with
    | 0, hj =>
      simp only [List.getElem?_cons_zero, Option.some.injEq] at hj
      subst hj
      have : ad.add 0 = ad := by cases ad; unfold Addr.add; split <;> simp_all
      rw [this]
      exact had
  have hlen : (Pat.strs l ++ [Value.string s]).length = (n + 1) * 1 := by simp [Pat.strs, hln]
  have grown : ∀ (old : Nat), (W.drew.alloc (.cells ((Pat.strs l).toArray ++ [Value.string s].toArray ++ Builtin.zeroCells (Value.string ByteArray.empty).cells (grownCap W (n + 1) old 9 - (n + 1))) 9)).ownsRow B 9 1 (.slice (some ⟨W.heap.size, 0, none⟩) (n + 1) (grownCap W (n + 1) old 9)) (n + 1) (Pat.strs (l ++ [s])) ∧
      ∀ row, W.grownBy (W.drew.alloc (.cells ((Pat.strs l).toArray ++ [Value.string s].toArray ++ Builtin.zeroCells (Value.string ByteArray.empty).cells (grownCap W (n + 1) old 9 - (n + 1))) 9)) row := fun old => by
    have hge := grownCap_ge W (n + 1) old 9
    have hcm : grownCap W (n + 1) old 9 ≤ maxLen := grownCap_le_maxLen W (n + 1) old 9 (by unfold maxLen; omega)
    rw [hst]
    refine ⟨⟨hlen, .inr ⟨W.heap.size, _, _, rfl, hB, heap_alloc_new W.drew _, hge, hcm, ?_, ?_⟩⟩, fun row => ⟨rfl, rfl, rfl, by simp, fun k' hk' _ => Below.heap_alloc W.drew _ k' hk'⟩⟩
    · simp only [Array.size_append, List.size_toArray, size_zeroCells]
      simp [Pat.strs, hln, Value.cells]
      omega
    · simp only [Array.toList_append]
      rw [← hlen]
      exact List.take_left
  rcases h.2 with ⟨rfl, rfl⟩ | ⟨g, cap, cur, rfl, hbg, hg, hnc, hcm, hcs, ht⟩
  · have hl0 : l = [] := List.eq_nil_of_length_eq_zero hln
    subst hl0
    have hr := run_append_nil (P := Tryd.prog) (w := W) 24 24 9 i0 (.string ByteArray.empty) Tryd.underlying24 hi0 hz0 ad 1 c [.string s] (by rw [hz1]; rfl) hnews (by omega) (by omega) (by rw [hz2]; omega)
    obtain ⟨g1, g2⟩ := grown 0
    refine ⟨_, _, hr, ?_, ?_, .inr ⟨?_, rfl⟩⟩
    · simpa [Pat.strs] using g1
    · simpa [Pat.strs] using g2 _
    · simpa [Pat.strs] using g2 none
  · by_cases hroom : n + 1 ≤ cap
    · have hr := run_append_room (P := Tryd.prog) (w := W) 24 24 9 i0 Tryd.underlying24 hi0 g n cap cur hg ad 1 c [.string s] (by rw [hz1]; rfl) hnews (by simp [Value.oneCell']) hroom (by rw [hz1]; simp; omega)
      rw [hz1] at hr
      refine ⟨_, _, hr, ?_, ⟨rfl, rfl, rfl, by simp, fun k _ hk => setRow_other W g k _ (fun e => hk (by simp [Value.ownBlock, e]))⟩, .inl ⟨g, cap, rfl, rfl⟩⟩
      rw [hst]
      refine ⟨hlen, .inr ⟨g, cap, _, rfl, hbg, setRow_heap W g cur _ 9 _ hg, hroom, hcm, ?_, ?_⟩⟩
      · simp
        omega
      · rw [ht, ← hlen]
        simp only [List.append_assoc]
        rw [← List.append_assoc]
        exact List.take_left
    · have holds := h.cells (g := g) rfl
      have hr := run_append_grow (P := Tryd.prog) (w := W) 24 24 9 i0 (.string ByteArray.empty) Tryd.underlying24 hi0 hz0 ⟨g, 0, none⟩ n cap (Pat.strs l) (by rw [hz1]; simp [Pat.strs, hln]) holds ad 1 c [.string s] (by rw [hz1]; rfl) hnews (by omega) (by omega) (by rw [hz2]; exact growslice_fits (by omega) (by omega))
      obtain ⟨g1, g2⟩ := grown cap
      exact ⟨_, _, hr, g1, g2 _, .inr ⟨g2 none, rfl⟩⟩
/-- names stay where a longer row of them is -/
theorem app_back {W : World} {B n : Nat} {u u' : Value} {l : List ByteArray} {s : ByteArray} (h : W.ownsRow B 9 1 u' (n + 1) (Pat.strs (l ++ [s]))) (hl : l.length = n) (he : ∃ g cap, u = .slice (some ⟨g, 0, none⟩) n cap ∧ u' = .slice (some ⟨g, 0, none⟩) (n + 1) cap) : W.ownsRow B 9 1 u n (Pat.strs l) := by
  obtain ⟨g, cap, rfl, rfl⟩ := he
  have := own_shrink h (Nat.le_succ n)
  rw [show (Pat.strs (l ++ [s])).take n = Pat.strs l by simp [Pat.strs, ← hl]] at this
  exact this

/-- an item's three cells -/
abbrev ic (g : It) : List Value := [.string g.p, .bool g.d, .slice g.a g.b.length g.c]
def icells (l : List It) : List Value := l.flatMap ic
theorem icells_app (l m : List It) : icells (l ++ m) = icells l ++ icells m := by
  unfold icells
  rw [List.flatMap_append]
theorem icells_len (l : List It) : (icells l).length = l.length * 3 := by
  induction l with
  | nil => rfl
  | cons f l ih => simp only [icells, List.flatMap_cons, List.length_append, List.length_cons, List.length_nil] at *; omega
theorem icells_get {l : List It} : ∀ {j : Nat} (h : j < l.length), (icells l)[j * 3]? = some (.string l[j].p) ∧ (icells l)[j * 3 + 1]? = some (.bool l[j].d) ∧ (icells l)[j * 3 + 2]? = some (.slice l[j].a l[j].b.length l[j].c) := by
  induction l with
  | nil => intro j h; simp at h
  | cons f l ih =>
    intro j h
    cases j with
    | zero => exact ⟨rfl, rfl, rfl⟩
    | succ j =>
      have := ih (j := j) (by simpa using h)
      have e : (j + 1) * 3 = j * 3 + 1 + 1 + 1 := by omega
      rw [e]
      simpa [icells] using this
/-- what they tell -/
def tells (its : List It) : List (ByteArray × Bool × List Nat) := its.map fun g => (g.p, g.d, g.b)
def told (l : List Th) : List (ByteArray × Bool × List Nat) := l.map fun x => (jnT x.1, x.2.1, Crc.tx x.2.2)
theorem row_same {w w' : World} {B n s : Nat} {t : TypeId} {v : Value} {xs : List Value} (h : w.ownsRow B t s v n xs) (hb : ∀ k, v.ownBlock = some k → w'.heap[k]? = w.heap[k]?) : w'.ownsRow B t s v n xs := by
  rcases h with ⟨h1, h2⟩
  refine ⟨h1, ?_⟩
  rcases h2 with h0 | ⟨g, cap, cur, e, hB, hh, hr⟩
  · exact .inl h0
  · exact .inr ⟨g, cap, cur, e, hB, (hb g (by rw [e]; rfl)).trans hh, hr⟩
theorem row_blk {w : World} {B n s : Nat} {t : TypeId} {v : Value} {xs : List Value} (h : w.ownsRow B t s v n xs) {k : Nat} (hk : v.ownBlock = some k) : B ≤ k ∧ k < w.heap.size := by
  rcases h.2 with ⟨e, _⟩ | ⟨g, cap, cur, e, hB, hh, _⟩
  · rw [e] at hk; cases hk
  · rw [e] at hk
    simp only [Value.ownBlock, Option.some.injEq] at hk
    subst hk
    exact ⟨hB, (Array.getElem?_eq_some_iff.1 hh).1⟩
end Trk
end Go.Proofs.YtkhkcfbacnkcnaaDoor
/- How what the program has found lies from one step to the next. -/
namespace Go.Proofs.YtkhkcfbacnkcnaaDoor
open Go.RowKit Go.MapKept
namespace Trk
open Tre (Nm Th It Its eqI smT allT jnT kidL kidT)

section
variable {w w' : World} {N : Nat} {t : List Th} {L : Nm → Nd} {B : Nat} {v : Value} {its : List It} {u : Value} {p : Nm}
end
section
variable {w w1 w2 : World} {N : Nat} {t : List Th} {L : Nm → Nd} {B : Nat} {v v1 v2 : Value} {its new1 new2 : List It} {u : Value} {p : Nm} {l1 l2 : List Th}
end
end Trk
end Go.Proofs.YtkhkcfbacnkcnaaDoor
