/- Texts laid together: TreAdd, TreSet, TreWithout, TrkMath, TrkMem, TrkLay, TrkFollow, TrkAt, TrkFind, TrkPut, TrkAdd. -/
import Derived.Test.YtkhkcfbacnkcnaaGreatDoorMc2
import Derived.Deep.DeepCutAuto
import Derived.Deep.AppendLies
import Derived.Test.YtkhkcfbacnkcnaaGreatDoorMc1
import Derived.Maps.OwnSet
import Derived.Maps.OwnIn
import Derived.Sort.KeysCollected
import Derived.Shelf.Strconv.Clone
import Derived.Ground.NamesProg
import Derived.Test.YtkhkcfbacnkcnaaGreatDoorProg
import Derived.WalkSpells
/- A thing more. -/
namespace Go.Proofs.YtkhkcfbacnkcnaaGreatDoor
open Go.RowKit Go.MapKept
namespace Tre
open Pat (Txs)

theorem thing_info : (Tryz.prog.info? 93).map (fun i => (i.zero, i.size, i.bytes)) = some (some (.agg #[.slice none 0 0, .bool false, .string ByteArray.empty]), 3, 48) := by kernel_rfl
theorem row_slice3 {B n : Nat} {W : World} {e : TypeId} {v : Value} {xs : List Value} (h : W.ownsRow B e 3 v n xs) : ∃ G c, v = .slice G n c := by
  rcases h.2 with ⟨e, h0⟩ | ⟨g, cap, cur, e, _⟩
  · exact ⟨none, 0, by rw [e, h0]⟩
  · exact ⟨_, _, e⟩
theorem row_base_lt3 {w : World} {B : Nat} {e : TypeId} {n : Nat} {v : Value} {xs : List Value} (h : w.ownsRow B e 3 v n xs) {g : Nat} (hg : v.ownBlock = some g) : B ≤ g := (World.ownsRow.lt h g hg).1
/-- a row of three cells each of the call's own stays -/
theorem own_keep3 {w w' : World} {B n : Nat} {t : TypeId} {v : Value} {xs : List Value} (h : w.ownsRow B t 3 v n xs) (hb : Below w.heap.size w w') : w'.ownsRow B t 3 v n xs := by
  have hN := fun g hg => (World.ownsRow.lt h g hg).2
  rcases h with ⟨h1, h2⟩
  refine ⟨h1, ?_⟩
  rcases h2 with h0 | ⟨g, cap, cur, e, hB, hh, hr⟩
  · exact .inl h0
  · exact .inr ⟨g, cap, cur, e, hB, (hb.block g (hN g (by rw [e]; rfl))).trans hh, hr⟩
theorem nil_of_none {w : World} {l : List Tg} (h : Ths w none l) : l = [] := by
  cases l with
  | nil => rfl
  | cons b l =>
    obtain ⟨_, _, e, _⟩ := h.at' 0 (by simp)
    cases e
/-- a copy of things, a row of the call's own -/
theorem copy_ths {W : World} {A : Option Addr} {l : List Tg} (c q : Nat) (hq : l.length = q) (h : Ths W A l) (hA : A = none → c = 0) :
    ∃ (G : Option Addr) (gc : Nat) (w' : World), (Builtin.append_ #[27, 27] 27 #[.slice (some ⟨W.heap.size, 0, none⟩) 0 0, .slice A q c]).run Tryz.prog (W.alloc (.cells #[] 93)) = .ok (.slice G q gc) w' ∧ w'.ownsRow W.heap.size 93 3 (.slice G q gc) q (tcells l) ∧ Below W.heap.size W w' := by
  subst hq
  have hl := h.len
  obtain ⟨i0, hi0, hz0, hz1, hz2⟩ := Pat.info_parts thing_info
  have hown : (W.alloc (.cells #[] 93)).ownsRow W.heap.size 93 3 (.slice (some ⟨W.heap.size, 0, none⟩) 0 0) 0 [] := World.ownsRow_made W #[] 0 (Nat.le_refl _) (by unfold maxLen; omega) rfl
  have hb := (Below.refl W.heap.size W).alloc (Nat.le_refl _) (.cells #[] 93)
  cases A with
  | none =>
    obtain rfl := nil_of_none h
    rw [hA rfl]
    exact ⟨_, _, _, run_append_owned_none (P := Tryz.prog) _ W.heap.size 27 27 93 i0 3 Tryz.underlying27 hi0 _ 0 [] hown, hown, hb⟩
  | some ad =>
    obtain ⟨v', w', hr, h2, h3, _, _⟩ := run_append_own_at (P := Tryz.prog) (W.alloc (.cells #[] 93)) W.heap.size 27 27 93 i0 (.agg #[.slice none 0 0, .bool false, .string ByteArray.empty]) 3 48 Tryz.underlying27 hi0 hz0 hz1 hz2 rfl (by decide) _ 0 [] hown ad l.length c (tcells l) (tcells_len l) (ths_news (h.alloc _)) (tcells_one l) (by unfold maxLen; omega) (by omega) (by simp)
    rw [Nat.zero_add, List.nil_append] at h2
    obtain ⟨G, gc, rfl⟩ := row_slice3 h2
    exact ⟨G, gc, w', hr, h2, hb.grown h3 (by simp) (fun k hk => row_base_lt3 hown hk)⟩
theorem three_new (w : World) (x y z : Value) (t : TypeId) : ∀ j u, [x, y, z][j]? = some u → (w.alloc (.cells #[x, y, z] t)).cell? ((⟨w.heap.size, 0, none⟩ : Addr).add j) = some u := by
  intro j u hj
  match j, hj with
  | 0, hj =>
    simp at hj
    subst hj
    simp [Addr.add]
  | 1, hj =>
    simp at hj
    subst hj
    simp [Addr.add]
  | 2, hj =>
    simp at hj
    subst hj
    simp [Addr.add]

/-- a thing more; the error -/
def addT (t : List Th) (p : ByteArray) (d : Bool) : List Th × Int :=
  match Pat.spl p with
  | none => (t, 3)
  | some n => if n = [] then (t, 5) else if goT t (n.take (n.length - 1)) ≠ 0 then (t, goT t (n.take (n.length - 1))) else if dirT t (n.take (n.length - 1)) = false then (t, 6) else if (fi t n).isSome then (t, 5) else (t ++ [(n, d, ByteArray.empty)], 0)
/-- a tree that is answered, with an error -/
def TrR (w : World) (A0 : Option Addr) (l0 : List Tg) (r : List Th × Int) (e : Ending) (w' : World) : Prop :=
  ∃ (A : Option Addr) (c : Nat) (l : List Tg), e = .returned (.tuple #[tv A l.length c, .int .i64 r.2]) ∧ Ths w' A l ∧ ths l = r.1 ∧ (A = none → c = 0) ∧ l.length ≤ c ∧ Below w.heap.size w w' ∧ ∀ b, b < w.heap.size → Apart b A0 l0 → Apart b A l

theorem addT_none {t : List Th} {p : ByteArray} {d : Bool} (h : Pat.spl p = none) : addT t p d = (t, 3) := by unfold addT; rw [h]
theorem addT_root {t : List Th} {p : ByteArray} {d : Bool} (h : Pat.spl p = some []) : addT t p d = (t, 5) := by unfold addT; rw [h]; rfl
section
variable {t : List Th} {p : ByteArray} {d : Bool} {n : Nm} (h : Pat.spl p = some n) (h0 : n ≠ [])
include h h0
theorem addT_go (hg : goT t (n.take (n.length - 1)) ≠ 0) : addT t p d = (t, goT t (n.take (n.length - 1))) := by
  unfold addT
  rw [h]
  simp only
  rw [if_neg h0, if_pos hg]
theorem addT_file (hg : goT t (n.take (n.length - 1)) = 0) (hd : dirT t (n.take (n.length - 1)) = false) : addT t p d = (t, 6) := by
  unfold addT
  rw [h]
  simp only
  rw [if_neg h0, if_neg (fun h => h hg), if_pos hd]
theorem addT_there {i : Nat} (hg : goT t (n.take (n.length - 1)) = 0) (hd : dirT t (n.take (n.length - 1)) = true) (hf : fi t n = some i) : addT t p d = (t, 5) := by
  unfold addT
  rw [h]
  simp only
  rw [if_neg h0, if_neg (fun h => h hg), if_neg (by rw [hd]; decide), if_pos (by rw [hf]; rfl)]
theorem addT_yes (hg : goT t (n.take (n.length - 1)) = 0) (hd : dirT t (n.take (n.length - 1)) = true) (hf : fi t n = none) : addT t p d = (t ++ [(n, d, ByteArray.empty)], 0) := by
  unfold addT
  rw [h]
  simp only
  rw [if_neg h0, if_neg (fun h => h hg), if_neg (by rw [hd]; decide), if_neg (by rw [hf]; decide)]
end

/-- a tree in a box, and the answer's block -/
structure Bx (w : World) (b0 b1 : Nat) (v u : Value) : Prop where
  l0 : b0 < w.heap.size
  l1 : b1 < w.heap.size
  c0 : w.cell? ⟨b0, 0, none⟩ = some v
  c1 : w.cell? ⟨b1, 0, none⟩ = some u
  f1 : w.frozen? ⟨b1, 0, none⟩ = false
theorem Bx.keep {w w' : World} {b0 b1 : Nat} {v u : Value} (h : Bx w b0 b1 v u) (hb : Below w.heap.size w w') : Bx w' b0 b1 v u :=
  ⟨Nat.lt_of_lt_of_le h.l0 hb.size, Nat.lt_of_lt_of_le h.l1 hb.size, (hb.cell (p := ⟨b0, 0, none⟩) h.l0).trans h.c0, (hb.cell (p := ⟨b1, 0, none⟩) h.l1).trans h.c1, (hb.frozen (p := ⟨b1, 0, none⟩) h.l1).trans h.f1⟩
theorem bx_new (w : World) (v u : Value) (t t' : TypeId) : Bx ((w.alloc (.cells #[v] t)).alloc (.cells #[u] t')) w.heap.size (w.heap.size + 1) v u := by
  have e : (w.alloc (.cells #[v] t)).heap.size = w.heap.size + 1 := by simp
  have r := World.rowIs_alloc (w.alloc (.cells #[v] t)) #[u] t' (fun _ => u) (fun j hj => by
    have : j < 1 := hj
    match j, this with
    | 0, _ => rfl)
  rw [e] at r
  exact ⟨by simp; omega, by simp, by rw [World.cell?_alloc_old _ _ _ (by simp)]; exact Crc.alloc_cell w #[v] t 0, r.cell (by simp), r.frozen 0⟩

set_option maxRecDepth 100000 in
set_option maxHeartbeats 4000000 in
theorem add_any (w : World) (A : Option Addr) (c q : Nat) (l : List Tg) (p : ByteArray) (dd : Bool) (hq : l.length = q) (h : Ths w A l) (hp : p.size < 4294967281) (hA : A = none → c = 0) (hc : q ≤ c) (hl : q ≤ 999999) :
    Calls Tryz.prog 35 #[tv A q c, .string p, .bool dd] w (TrR w A l (addT (ths l) p dd)) := by
  have hb0 := ((Below.refl w.heap.size w).alloc (Nat.le_refl _) (.cells #[.slice A q c] 29)).alloc (by simp) (.cells #[.slice none 0 0] 29)
  have HB0 := Lib.hid hb0
  have HX0 := Lib.hid (bx_new w (.slice A q c) (.slice none 0 0) 29 29)
  have HT := Lib.hid (h.keep hb0)
  have HQ := Lib.hid hq
  have HA := Lib.hid hA
  have HW := Lib.hid h
  have fin : ∀ (wr : World) (z : Int), Below w.heap.size w wr → addT (ths l) p dd = (ths l, z) → TrR w A l (addT (ths l) p dd) (.returned (.tuple #[tv A q c, .int .i64 z])) (wr.setCell ⟨w.heap.size + 1, 0, none⟩ (.slice A q c)) := fun wr z hb e => by
    have hb2 := hb.setCell (p := ⟨w.heap.size + 1, 0, none⟩) (Nat.le_succ _) (.slice A q c)
    rw [e]
    exact ⟨A, c, l, by rw [hq], h.keep hb2, rfl, hA, by omega, hb2, fun _ _ h => h⟩
  have FIN := Lib.hid fin
  clear h hq hA hb0 fin
  go_enter Tryz.func35, Tryz.ntmps35
  go_wp2_with fail
  generalize (w.alloc (.cells #[.slice A q c] 29)).alloc (.cells #[.slice none 0 0] 29) = w1 at *
  obtain ⟨b1, hb1⟩ : ∃ b1, b1 = w.heap.size + 1 := ⟨_, rfl⟩
  rw [← hb1] at HX0 FIN ⊢
  have HB1 := Lib.hid hb1
  clear hb1
  have hl1 := HX0.out.l1
  refine (Pat.refSplit_any w1 p hp).mono ?_
  rintro e w2 ⟨hb2, hs⟩
  have HB2 := Lib.hid (HB0.out.trans (hb2.mono HB0.out.size))
  have HT2 := Lib.hid (HT.out.keep hb2)
  have HX2 := Lib.hid (HX0.out.keep hb2)
  clear hb2
  rcases hs with ⟨n, B, d, hsp, rfl, hn, hd, hBB⟩ | ⟨hsp, rfl⟩
  · have hn64 := (Pat.pth_spl hsp).1.1
    have hnn := (Pat.pth_spl hsp).1
    by_cases h0 : n = []
    · subst h0
      have HF := Lib.hid (FIN.out w2 5 HB2.out (addT_root hsp))
      have hc0 := HX2.out.c0
      have hc1 := HX2.out.c1
      have hf1 := HX2.out.f1
      have hs1 := World.cell?_setCell_same w2 ⟨b1, 0, none⟩ (.slice A q c) hc1
      clear hsp hn
      go_wp2
      refine bodyPost_ret (v := .tuple #[tv A q c, .int .i64 5]) ?_ rfl HF.out
      simp [results, Tryz.results35, go_sem, hs1]
    · have hpos : 0 < n.length := List.length_pos_iff.2 h0
      obtain ⟨m1, hm1⟩ : ∃ m1, n.length = m1 + 1 := ⟨n.length - 1, by omega⟩
      have hm2 : n.length - 1 = m1 := by omega
      have hsub : (n.length : Int) - 1 = (m1 : Int) := by omega
      have hz : ((n.length : Int) == 0) = false := beq_eq_false_iff_ne.2 (by omega)
      have hz2 : ¬ (n.length : Int) = 0 := by omega
      have hk0 : (0 : Int) ≤ (m1 : Int) := by omega
      have hkd : (m1 : Int) ≤ (d : Int) := by omega
      have AGO := addT_go (t := ths l) (d := dd) hsp h0
      have AFI := addT_file (t := ths l) (d := dd) hsp h0
      have ATH := fun i => addT_there (t := ths l) (d := dd) (i := i) hsp h0
      have AYS := addT_yes (t := ths l) (d := dd) hsp h0
      rw [hm2] at AGO AFI AYS
      simp only [hm2] at ATH
      have HAGO := Lib.hid AGO
      have HAFI := Lib.hid AFI
      have HATH := Lib.hid ATH
      have HAYS := Lib.hid AYS
      have HN2 := Lib.hid hn
      have HNB := Lib.hid (show ∀ a, B = some a → b1 < a.block from fun a e => by have := hBB a e; omega)
      have HUL := Lib.hid (show (n.take m1).length = m1 by rw [List.length_take]; omega)
      have HNN := Lib.hid hnn
      have hm64 : m1 ≤ 64 := by omega
      have hdm : m1 ≤ d := by omega
      have hc0 := HX2.out.c0
      clear AGO AFI ATH AYS hsp hn hm1 hm2 hnn hpos h0 hBB
      go_wp2_with fail
      refine (go_any w2 A B c d l (n.take m1) q m1 HQ.out HUL.out HT2.out (HN2.out.take m1) hdm (by omega)).mono ?_
      rintro e w3 ⟨rfl, hb3⟩
      have HB3 := Lib.hid (HB2.out.trans (hb3.mono HB2.out.size))
      have HT3 := Lib.hid (HT2.out.keep hb3)
      have HN3 := Lib.hid (HN2.out.keep hb3)
      have HX3 := Lib.hid (HX2.out.keep hb3)
      clear hb3 HT2 HN2 HX2 hc0
      have hc0 := HX3.out.c0
      by_cases hg : goT (ths l) (n.take m1) = 0
      · rw [hg]
        have HG := Lib.hid hg
        clear hg HAGO
        go_wp2_with fail
        refine (dir_any w3 A B c d l (n.take m1) q m1 HQ.out HUL.out HT3.out (HN3.out.take m1)).mono ?_
        rintro e w4 ⟨rfl, hb4⟩
        have HB4 := Lib.hid (HB3.out.trans (hb4.mono HB3.out.size))
        have HT4 := Lib.hid (HT3.out.keep hb4)
        have HN4 := Lib.hid (HN3.out.keep hb4)
        have HX4 := Lib.hid (HX3.out.keep hb4)
        clear hb4 HT3 HN3 HX3 hc0
        have hc0 := HX4.out.c0
        cases hdr : dirT (ths l) (n.take m1) with
        | false =>
          have HF := Lib.hid (FIN.out w4 6 HB4.out (HAFI.out HG.out hdr))
          have hc1 := HX4.out.c1
          have hf1 := HX4.out.f1
          have hs1 := World.cell?_setCell_same w4 ⟨b1, 0, none⟩ (.slice A q c) hc1
          clear hdr
          go_wp2
          refine bodyPost_ret (v := .tuple #[tv A q c, .int .i64 6]) ?_ rfl HF.out
          simp [results, Tryz.results35, go_sem, hs1]
        | true =>
          have HD := Lib.hid hdr
          clear hdr HAFI
          go_wp2_with fail
          refine (find_any w4 A B c d l n q n.length HQ.out rfl HT4.out HN4.out).mono ?_
          rintro e w5 ⟨rfl, hb5⟩
          have HB5 := Lib.hid (HB4.out.trans (hb5.mono HB4.out.size))
          have HT5 := Lib.hid (HT4.out.keep hb5)
          have HN5 := Lib.hid (HN4.out.keep hb5)
          have HX5 := Lib.hid (HX4.out.keep hb5)
          clear hb5 HT4 HN4 HX4 hc0
          have hc0 := HX5.out.c0
          cases hfi : fi (ths l) n with
          | some i =>
            rw [fv_some hfi]
            have HF := Lib.hid (FIN.out w5 5 HB5.out (HATH.out i HG.out HD.out hfi))
            have hc1 := HX5.out.c1
            have hf1 := HX5.out.f1
            have hs1 := World.cell?_setCell_same w5 ⟨b1, 0, none⟩ (.slice A q c) hc1
            have hi0 : (0 : Int) ≤ (i : Int) := by omega
            clear hfi
            go_wp2
            refine bodyPost_ret (v := .tuple #[tv A q c, .int .i64 5]) ?_ rfl HF.out
            simp [results, Tryz.results35, go_sem, hs1]
          | none =>
            rw [fv_none hfi]
            have HYS := Lib.hid (HAYS.out HG.out HD.out hfi)
            clear hfi HATH HAYS
            obtain ⟨G0, g0, w6, hap, hown, hb6⟩ := copy_ths c q HQ.out HT5.out HA.out
            have HAP := Lib.hid hap
            have HB6 := Lib.hid hb6
            have HO6 := Lib.hid (hown.alloc (.cells #[.slice B n.length d, .bool dd, .string ⟨#[]⟩] 93))
            have HB7 := Lib.hid (hb6.alloc hb6.size (.cells #[.slice B n.length d, .bool dd, .string ⟨#[]⟩] 93))
            have HN7 := Lib.hid (three_new w6 (.slice B n.length d) (.bool dd) (.string ⟨#[]⟩) 93)
            clear hap hown hb6
            obtain ⟨i0, hi0, hz0, hz1, hz2⟩ := Pat.info_parts thing_info
            have hc0a := (((Below.refl w5.heap.size w5).alloc (Nat.le_refl _) (.cells #[] 93)).cell (p := ⟨w.heap.size, 0, none⟩) HX5.out.l0).trans hc0
            have hc0' := (HB6.out.cell (p := ⟨w.heap.size, 0, none⟩) HX5.out.l0).trans hc0
            go_wp2_with (first
              | (at_builtin; refine Pat.wpList_append_run rfl (.tmp 47) (.tmp 49) 27 rfl _ _ _ rfl rfl HAP.out ?_)
              | (at_builtin; refine wpList_append_own_at _ rfl (.tmp 51) (.tmp 55) 27 rfl w5.heap.size 93 i0 (.agg #[.slice none 0 0, .bool false, .string ByteArray.empty]) 3 48 Tryz.underlying27 hi0 hz0 hz1 hz2 rfl (by decide) (.slice G0 q g0) q (tcells l) rfl HO6.out ⟨w6.heap.size, 0, none⟩ 1 1 [.slice B n.length d, .bool dd, .string ⟨#[]⟩] rfl rfl HN7.out (by simp [Value.oneCell']) (by unfold maxLen; omega) (by omega) (by have := HB7.out.size; omega) ?_
                 intro v' w8 hown8 hgr8 _ _
                 obtain ⟨G, gc, rfl⟩ := row_slice3 hown8
                 have HO8 := Lib.hid hown8
                 have HB8 := Lib.hid (HB7.out.grown hgr8 HB7.out.size (fun k hk => row_base_lt3 HO6.out hk))
                 have HX8 := Lib.hid (HX5.out.keep HB8.out)
                 have hc1 := HX8.out.c1
                 have hf1 := HX8.out.f1
                 clear hown8 hgr8))
            have hs1 := World.cell?_setCell_same w8 ⟨b1, 0, none⟩ (.slice G (q + 1) gc) hc1
            have hbz : Below w.heap.size w (w8.setCell ⟨b1, 0, none⟩ (.slice G (q + 1) gc)) := (HB5.out.trans (HB8.out.mono HB5.out.size)).setCell (p := ⟨b1, 0, none⟩) (by have := HB1.out; simp only; omega) _
            have htx : Txs (w8.setCell ⟨b1, 0, none⟩ (.slice G (q + 1) gc)) B n := txs_set (HN5.out.keep HB8.out) HNB.out 0 _
            have hnd : n.length ≤ d := hd
            have hth := HW.out.keep hbz
            have hln : (l ++ [(B, d, n, dd, (⟨#[]⟩ : ByteArray))]).length = q + 1 := by rw [List.length_append, HQ.out]; rfl
            have hot := (own_ths (l := l ++ [(B, d, n, dd, (⟨#[]⟩ : ByteArray))]) (own_set (b := b1) (by rw [tcells_append]; exact HO8.out) HX5.out.l1 0 (.slice G (q + 1) gc)) (by omega)
              (fun g hg => by
                rcases List.mem_append.1 hg with hg | hg
                · exact hth.nm g hg
                · obtain rfl : g = (B, d, n, dd, (⟨#[]⟩ : ByteArray)) := by simpa using hg
                  exact ⟨htx, hnd⟩)
              (fun g hg => by
                rcases List.mem_append.1 hg with hg | hg
                · exact hth.sz g hg
                · obtain rfl : g = (B, d, n, dd, (⟨#[]⟩ : ByteArray)) := by simpa using hg
                  exact Nat.zero_le _)).1
            have hcap : q + 1 ≤ gc := Pat.row_cap HO8.out
            have HF := Lib.hid (show TrR w A l (addT (ths l) p dd) (.returned (.tuple #[tv G (q + 1) gc, .int .i64 0])) (w8.setCell ⟨b1, 0, none⟩ (.slice G (q + 1) gc)) by
              rw [HYS.out]
              refine ⟨G, gc, l ++ [(B, d, n, dd, (⟨#[]⟩ : ByteArray))], by rw [hln], hot, by simp; rfl, fun e => ?_, by rw [hln]; exact hcap, hbz, fun b hb ha => ⟨fun a e _ => ?_, fun g hg a e hn => ?_⟩⟩
              · subst e
                have := nil_of_none hot
                simp at this
              · have hgb : w5.heap.size ≤ a.block := row_base_lt3 (B := w5.heap.size) HO8.out (g := a.block) (by
                  rcases HO8.out.2 with ⟨e2, _⟩ | ⟨g, cap, cur, e2, _⟩
                  · rw [e] at e2
                    cases e2
                  · injection e2 with e2
                    rw [e] at e2
                    injection e2 with e2
                    subst e2
                    rw [e]
                    rfl)
                have := HB5.out.size
                omega
              · rcases List.mem_append.1 hg with hg | hg
                · exact ha.2 g hg a e hn
                · obtain rfl : g = (B, d, n, dd, (⟨#[]⟩ : ByteArray)) := by simpa using hg
                  have hx := HNB.out a e
                  have hy := HB1.out
                  omega)
            clear hbz htx hnd hth hln hot hcap
            refine bodyPost_ret (v := .tuple #[tv G (q + 1) gc, .int .i64 0]) ?_ rfl HF.out
            simp [results, Tryz.results35, go_sem, hs1]
      · have HV := Lib.hid (HAGO.out hg)
        have hc1 := HX3.out.c1
        have hf1 := HX3.out.f1
        have hg1 : (goT (ths l) (n.take m1) == 0) = false := by simpa using hg
        generalize goT (ths l) (n.take m1) = z at *
        have HF := Lib.hid (FIN.out w3 z HB3.out HV.out)
        have hs1 := World.cell?_setCell_same w3 ⟨b1, 0, none⟩ (.slice A q c) hc1
        clear HAGO HAFI HATH HAYS
        go_wp2
        refine bodyPost_ret (v := .tuple #[tv A q c, .int .i64 z]) ?_ rfl HF.out
        simp [results, Tryz.results35, go_sem, hs1]
  · have HF := Lib.hid (FIN.out w2 3 HB2.out (addT_none hsp))
    have hc0 := HX2.out.c0
    have hc1 := HX2.out.c1
    have hf1 := HX2.out.f1
    have hs1 := World.cell?_setCell_same w2 ⟨b1, 0, none⟩ (.slice A q c) hc1
    clear hsp
    go_wp2
    refine bodyPost_ret (v := .tuple #[tv A q c, .int .i64 3]) ?_ rfl HF.out
    simp [results, Tryz.results35, go_sem, hs1]
end Tre
end Go.Proofs.YtkhkcfbacnkcnaaGreatDoor
/- A thing's bytes changed; noughts. -/
namespace Go.Proofs.YtkhkcfbacnkcnaaGreatDoor
open Go.RowKit Go.MapKept
namespace Tre
open Pat (Txs)

/-- a tree that is answered: a new row, of names that these had -/
def TrV (w : World) (src : List Tg) (t : List Th) (e : Ending) (w' : World) : Prop :=
  ∃ (A : Option Addr) (c : Nat) (l : List Tg), e = .returned (tv A l.length c) ∧ Ths w' A l ∧ ths l = t ∧ (A = none → c = 0) ∧ l.length ≤ c ∧ Below w.heap.size w w' ∧ (∀ a, A = some a → w.heap.size ≤ a.block) ∧ ∀ g ∈ l, ∃ x ∈ src, g.1 = x.1 ∧ g.2.1 = x.2.1 ∧ g.2.2.1 = x.2.2.1
/-- a tree's things stay where a cell elsewhere is stored -/
theorem ths_put {w : World} {A : Option Addr} {l : List Tg} {b o : Nat} {u : Value} (h : Ths w A l) (hA : ∀ a, A = some a → b < a.block) (hn : ∀ g ∈ l, Txs (w.setCell ⟨b, o, none⟩ u) g.1 g.2.2.1) : Ths (w.setCell ⟨b, o, none⟩ u) A l :=
  ⟨h.len, fun g hg => ⟨hn g hg, (h.nm g hg).2⟩, h.sz, fun j hj => by
    obtain ⟨b', o', e, hlt, h0, h1, h2⟩ := h.at' j hj
    have hbb : b < b' := hA _ e
    refine ⟨b', o', e, by simpa [World.setCell] using hlt, ?_, ?_, ?_⟩
    all_goals rw [World.cell?_setCell_other _ _ _ _ (fun e => by injection e with e; omega)]
    · exact h0
    · exact h1
    · exact h2⟩

/-- the thing at i has other bytes -/
def setT : List Th → Nat → ByteArray → List Th
  | [], _, _ => []
  | x :: t, 0, s => (x.1, x.2.1, s) :: t
  | x :: t, i + 1, s => x :: setT t i s
def setG : List Tg → Nat → ByteArray → List Tg
  | [], _, _ => []
  | x :: t, 0, s => (x.1, x.2.1, x.2.2.1, x.2.2.2.1, s) :: t
  | x :: t, i + 1, s => x :: setG t i s
theorem setG_len : ∀ (l : List Tg) (i : Nat) (s : ByteArray), (setG l i s).length = l.length
  | [], _, _ => rfl
  | _ :: _, 0, _ => rfl
  | _ :: l, i + 1, s => by rw [setG, List.length_cons, List.length_cons, setG_len l i s]
theorem ths_setG : ∀ (l : List Tg) (i : Nat) (s : ByteArray), ths (setG l i s) = setT (ths l) i s
  | [], _, _ => rfl
  | _ :: _, 0, _ => rfl
  | x :: l, i + 1, s => by
    have := ths_setG l i s
    simp only [ths, setG, setT, List.map_cons] at *
    rw [this]
theorem tcells_setG : ∀ (l : List Tg) (i : Nat) (s : ByteArray), tcells (setG l i s) = (tcells l).set (i * 3 + 2) (.string s)
  | [], _, _ => rfl
  | _ :: _, 0, _ => rfl
  | x :: l, i + 1, s => by
    rw [show (i + 1) * 3 + 2 = i * 3 + 2 + 1 + 1 + 1 by omega, show tcells (setG (x :: l) (i + 1) s) = tc x ++ tcells (setG l i s) from rfl, tcells_setG l i s, show tcells (x :: l) = tc x ++ tcells l from rfl]
    rfl
theorem setG_mem : ∀ (l : List Tg) (i : Nat) (s : ByteArray) (g : Tg), g ∈ setG l i s → (∃ x ∈ l, g.1 = x.1 ∧ g.2.1 = x.2.1 ∧ g.2.2.1 = x.2.2.1) ∧ (g ∈ l ∨ g.2.2.2.2 = s)
  | [], _, _, g, h => by simp [setG] at h
  | x :: l, 0, s, g, h => by
    rcases List.mem_cons.1 h with rfl | h
    · exact ⟨⟨x, by simp, rfl, rfl, rfl⟩, .inr rfl⟩
    · exact ⟨⟨g, by simp [h], rfl, rfl, rfl⟩, .inl (by simp [h])⟩
  | x :: l, i + 1, s, g, h => by
    rcases List.mem_cons.1 h with rfl | h
    · exact ⟨⟨g, by simp, rfl, rfl, rfl⟩, .inl (by simp)⟩
    · obtain ⟨⟨y, hy, e⟩, h2⟩ := setG_mem l i s g h
      exact ⟨⟨y, by simp [hy], e⟩, h2.elim (fun h => .inl (by simp [h])) .inr⟩

set_option maxRecDepth 100000 in
set_option maxHeartbeats 4000000 in
theorem set_any (w : World) (A : Option Addr) (c q i : Nat) (l : List Tg) (s : ByteArray) (hq : l.length = q) (h : Ths w A l) (hs : s.size ≤ 9223372036854775807) (hA : A = none → c = 0) (hi : i < l.length) :
    Calls Tryz.prog 73 #[tv A q c, .int .i64 (i : Int), .string s] w (TrV w l (setT (ths l) i s)) := by
  rw [← ths_setG l i s]
  have hl := h.len
  have hb0 := ((Below.refl w.heap.size w).alloc (Nat.le_refl _) (.cells #[.slice A q c] 29)).alloc (by simp) (.cells #[.slice none 0 0] 29)
  have HB0 := Lib.hid hb0
  have HX0 := Lib.hid (bx_new w (.slice A q c) (.slice none 0 0) 29 29)
  have HT := Lib.hid (h.keep hb0)
  have HW := Lib.hid h
  have hiq : i < q := by omega
  have hi0 : (0 : Int) ≤ (i : Int) := by omega
  have hi1 : (i : Int) < (q : Int) := by omega
  have hlq : q ≤ 1000000 := by omega
  have HQ := Lib.hid hq
  have HI := Lib.hid hi
  have HA := Lib.hid hA
  clear h hq hA hb0 hi hl
  go_enter Tryz.func73, Tryz.ntmps73
  go_upto_region 1 with fail
  generalize (w.alloc (.cells #[.slice A q c] 29)).alloc (.cells #[.slice none 0 0] 29) = w1 at *
  obtain ⟨b1, hb1⟩ : ∃ b1, b1 = w.heap.size + 1 := ⟨_, rfl⟩
  rw [← hb1] at HX0 ⊢
  obtain ⟨G0, g0, w2, hap, hown, hb2⟩ := copy_ths c q HQ.out HT.out HA.out
  obtain ⟨g, rfl⟩ : ∃ g, G0 = some ⟨g, 0, none⟩ := by
    rcases hown.2 with ⟨e, h0⟩ | ⟨g, cap, cur, e, _⟩
    · omega
    · injection e with e
      exact ⟨g, e⟩
  have hgb := row_base_lt3 hown (g := g) rfl
  have hc0 := (((Below.refl w1.heap.size w1).alloc (Nat.le_refl _) (.cells #[] 93)).cell (p := ⟨w.heap.size, 0, none⟩) HX0.out.l0).trans HX0.out.c0
  have hx2 := HX0.out.keep hb2
  have hbl := HX0.out.l1
  obtain ⟨u, hu⟩ : ∃ u, w2.cell? ⟨g, i * 3 + 2, none⟩ = some u := by
    rw [hown.cellAt (i * 3 + 2) (by omega)]
    exact ⟨_, List.getElem?_eq_getElem (by rw [tcells_len, HQ.out]; omega)⟩
  have hfz := hown.frozenAt (i * 3 + 2)
  have hc1 : (w2.setCell ⟨g, i * 3 + 2, none⟩ (.string s)).cell? ⟨b1, 0, none⟩ = some (.slice none 0 0) := by
    rw [World.cell?_setCell_other _ _ _ _ (fun e => by injection e with e; omega)]
    exact hx2.c1
  have hf1 : (w2.setCell ⟨g, i * 3 + 2, none⟩ (.string s)).frozen? ⟨b1, 0, none⟩ = false := by simpa using hx2.f1
  have hs1 := World.cell?_setCell_same (w2.setCell ⟨g, i * 3 + 2, none⟩ (.string s)) ⟨b1, 0, none⟩ (.slice (some ⟨g, 0, none⟩) q g0) hc1
  have HAP := Lib.hid hap
  have hfin : TrV w l (ths (setG l i s)) (.returned (tv (some ⟨g, 0, none⟩) q g0)) ((w2.setCell ⟨g, i * 3 + 2, none⟩ (.string s)).setCell ⟨b1, 0, none⟩ (.slice (some ⟨g, 0, none⟩) q g0)) := by
    have hwg : w.heap.size ≤ g := by have := HB0.out.size; omega
    have hbz : Below w.heap.size w ((w2.setCell ⟨g, i * 3 + 2, none⟩ (.string s)).setCell ⟨b1, 0, none⟩ (.slice (some ⟨g, 0, none⟩) q g0)) := ((HB0.out.trans (hb2.mono HB0.out.size)).setCell (p := ⟨g, i * 3 + 2, none⟩) hwg _).setCell (p := ⟨b1, 0, none⟩) (by simp only; omega) _
    have hth := HW.out.keep hbz
    have hst := (hown.stored (i * 3 + 2) (.string s)).1
    have hot := (own_ths (l := setG l i s) (own_set (b := b1) (by rw [tcells_setG]; exact hst) hbl 0 (.slice (some ⟨g, 0, none⟩) q g0)) hlq
      (fun x hx => by
        obtain ⟨⟨y, hy, e1, e2, e3⟩, _⟩ := setG_mem l i s x hx
        rw [e1, e2, e3]
        exact hth.nm y hy)
      (fun x hx => by
        rcases (setG_mem l i s x hx).2 with h | h
        · exact hth.sz x h
        · rw [h]; exact hs)).1
    exact ⟨_, g0, _, by rw [setG_len, HQ.out], hot, rfl, fun e => by (cases e), by rw [setG_len, HQ.out]; exact Pat.row_cap hown, hbz, fun a e => by
      injection e with e
      subst e
      exact hwg, fun x hx => (setG_mem l i s x hx).1⟩
  have HF := Lib.hid hfin
  clear hfin hap hown hb2 hx2 hgb hbl hb1
  go_wp2_with (at_builtin; refine Pat.wpList_append_run rfl (.tmp 8) (.tmp 10) 27 rfl _ _ _ rfl rfl HAP.out ?_)
  refine bodyPost_ret (v := tv (some ⟨g, 0, none⟩) q g0) ?_ rfl HF.out
  simp [results, Tryz.results73, go_sem, hs1]

/-- so many noughts -/
def zt (n : Nat) : ByteArray := Crc.str (List.replicate n 0)
theorem zt_size (n : Nat) : (zt n).size = n := by
  rw [Lib.size_eq]
  unfold zt Crc.str
  simp
theorem zeros_bts (w : World) (n : Nat) (hn : n ≤ 9223372036854775807) : Crc.Bts (w.alloc (.cells (madeCells #[.int .u8 0] n) 5)) (some ⟨w.heap.size, 0, none⟩) (List.replicate n 0) := by
  have hr := World.rowIs_made w (.int .u8 0) n 5
  refine ⟨fun b hb => ?_, by rw [List.length_replicate]; exact hn, fun j hj => ⟨w.heap.size, 0, rfl, by simp, ?_⟩⟩
  · obtain ⟨_, rfl⟩ := List.mem_replicate.1 hb
    decide
  · rw [List.length_replicate] at hj
    rw [Nat.zero_add, hr.cell hj, List.getElem_replicate]
    rfl
set_option maxRecDepth 100000 in
set_option maxHeartbeats 1000000 in
theorem zeros_any (w : World) (n : Nat) (x : Int) (hx : x = (n : Int)) (hn : n ≤ 268435456) :
    Calls Tryz.prog 72 #[.int .i64 x] w fun e w' => e = .returned (.string (zt n)) ∧ Below w.heap.size w w' := by
  subst hx
  have hmk := run_make_row' (P := Tryz.prog) 30 5 _ 1 Tryz.underlying30 Crc.u8_info rfl .i64 .i64 n (by omega) (by omega) w
  have hcv := Crc.conv_str n (zeros_bts w n (by omega))
  rw [List.length_replicate] at hcv
  have HB := Lib.hid ((Below.refl w.heap.size w).alloc (Nat.le_refl _) (.cells (madeCells #[.int .u8 0] n) 5))
  have HZ := Lib.hid (show Crc.str (List.replicate n 0) = zt n from rfl)
  generalize Crc.str (List.replicate n 0) = z at *
  go_enter Tryz.func72, Tryz.ntmps72
  go_wp2
  go_ret
  exact ⟨by rw [← HZ.out]; rfl, HB.out⟩
end Tre
end Go.Proofs.YtkhkcfbacnkcnaaGreatDoor
/- A thing fewer. -/
namespace Go.Proofs.YtkhkcfbacnkcnaaGreatDoor
open Go.RowKit Go.MapKept
namespace Tre
open Pat (Txs)

/-- things behind a row of the call's own -/
theorem app_ths {W : World} {A : Option Addr} {l : List Tg} {B n : Nat} {v : Value} {xs : List Value} (c m : Nat) (hm : l.length = m) (hown : W.ownsRow B 93 3 v n xs) (hB : B ≤ W.heap.size) (h : Ths W A l) (hA : A = none → c = 0) (hn : n ≤ 1000000) :
    ∃ (G : Option Addr) (gc : Nat) (w' : World), (Builtin.append_ #[27, 27] 27 #[v, .slice A m c]).run Tryz.prog W = .ok (.slice G (n + m) gc) w' ∧ w'.ownsRow B 93 3 (.slice G (n + m) gc) (n + m) (xs ++ tcells l) ∧ W.grownBy w' v.ownBlock := by
  subst hm
  have hl := h.len
  obtain ⟨i0, hi0, hz0, hz1, hz2⟩ := Pat.info_parts thing_info
  cases A with
  | none =>
    obtain rfl := nil_of_none h
    rw [hA rfl]
    obtain ⟨G, gc, rfl⟩ := row_slice3 hown
    refine ⟨G, gc, W, run_append_owned_none (P := Tryz.prog) _ B 27 27 93 i0 3 Tryz.underlying27 hi0 _ n xs hown, by simpa [tcells] using hown, ⟨rfl, rfl, rfl, Nat.le_refl _, fun _ _ _ => rfl⟩⟩
  | some ad =>
    obtain ⟨v', w', hr, h2, h3, _, _⟩ := run_append_own_at (P := Tryz.prog) W B 27 27 93 i0 (.agg #[.slice none 0 0, .bool false, .string ByteArray.empty]) 3 48 Tryz.underlying27 hi0 hz0 hz1 hz2 rfl (by decide) _ n xs hown ad l.length c (tcells l) (tcells_len l) (ths_news h) (tcells_one l) (by unfold maxLen; omega) (by omega) hB
    obtain ⟨G, gc, rfl⟩ := row_slice3 h2
    exact ⟨G, gc, w', hr, h2, h3⟩

theorem und_th : Tryz.prog.underlying 27 = some (.slice (Tryz.prog.elem 27)) := by kernel_rfl
theorem size_th (W : World) : (sizeOf (Tryz.prog.elem 27)).run Tryz.prog W = .ok 3 W := by kernel_rfl
/-- things up to a place -/
theorem ths_upto (A : Option Addr) (n c q : Nat) (hq : q ≤ n) (hn : n ≤ c) (hA : A = none → c = 0) : ∃ B : Option Addr, (∀ W, (Instr.slice 27 (.slice A n c) none (some (.int .i64 (q : Int))) none).run Tryz.prog W = .ok (.slice B q c) W) ∧ (B = none → c = 0) ∧ ∀ W (l : List Tg), l.length = n → Ths W A l → Ths W B (l.take q) := by
  refine ⟨if c = 0 then A else A.map (·.add (0 * 3)), fun W => ?_, fun e => ?_, fun W l hl hb => ?_⟩
  · rw [run_slice_h _ _ _ _ _ und_th .i64 (q : Int) (by omega) (by omega), size_th]
    rfl
  · split at e
    · assumption
    · exact hA (by simpa using e)
  · refine ⟨by rw [List.length_take]; have := hb.len; omega, fun g hg => hb.nm g (List.mem_of_mem_take hg), fun g hg => hb.sz g (List.mem_of_mem_take hg), fun j hj => ?_⟩
    rw [List.length_take] at hj
    obtain ⟨b, o, rfl, h1, h2⟩ := hb.at' j (by omega)
    refine ⟨b, o, ?_, h1, ?_⟩
    · split
      · rfl
      · rw [Option.map_some, Go.WideShapes.add_plain]
        rfl
    · rw [List.getElem_take]
      exact h2
/-- things from a place on -/
theorem ths_from (A : Option Addr) (n c q : Nat) (hq : q ≤ n) (hn : n ≤ c) (hA : A = none → c = 0) : ∃ B : Option Addr, (∀ W, (Instr.slice 27 (.slice A n c) (some (.int .i64 (q : Int))) none none).run Tryz.prog W = .ok (.slice B (n - q) (c - q)) W) ∧ (B = none → c - q = 0) ∧ ∀ W (l : List Tg), l.length = n → Ths W A l → Ths W B (l.drop q) := by
  refine ⟨if c = q then A else A.map (·.add (q * 3)), fun W => ?_, fun e => ?_, fun W l hl hb => ?_⟩
  · rw [run_slice_l _ _ _ _ _ und_th .i64 (q : Int) (by omega) (by omega), size_th]
    rfl
  · split at e
    · omega
    · have := hA (by simpa using e)
      omega
  · refine ⟨by rw [List.length_drop]; have := hb.len; omega, fun g hg => hb.nm g (List.mem_of_mem_drop hg), fun g hg => hb.sz g (List.mem_of_mem_drop hg), fun j hj => ?_⟩
    rw [List.length_drop] at hj
    obtain ⟨b, o, rfl, h1, h2, h3, h4⟩ := hb.at' (q + j) (by omega)
    have e : o + (q + j) * 3 = o + q * 3 + j * 3 := by omega
    rw [e] at h2 h3 h4
    refine ⟨b, o + q * 3, ?_, h1, ?_⟩
    · rw [if_neg (by omega), Option.map_some, Go.WideShapes.add_plain]
    · rw [List.getElem_drop]
      exact ⟨h2, h3, h4⟩

/-- at a step of a region that draws: an append whose run is known -/
theorem step_append_run {P : Program} {w w' : World} {ops : Array Oper} {o : Oper} {a : Act} {K : Act → World → Prop} {Q : Exit → Act → World → Prop} {E : Prop} (hgd : o.guard = none) (s x : Operand) (t : TypeId)
    (ho : o.op = .call { callee := .builtin .append, args := #[s, x], argTypes := #[t, t] }) (v u v' : Value) (hs : a.eval s = v) (hx : a.eval x = u) (hr : (Builtin.append_ #[t, t] o.type #[v, u]).run P w = .ok v' w')
    (h : K (a.put o.dst v') w') : if Region.wanted o (yielded ops a.tmps) = true then Oper.wp P o a w K Q else E := by
  have hw : Region.wanted o (yielded ops a.tmps) = true := by simp [Region.wanted, hgd]
  rw [if_pos hw]
  unfold Oper.wp execOp
  simp only [ho, resolve, invoke, builtin, Sem.run_bind, Sem.run_pure, Result.andThen_ok, List.map_toArray, List.map_cons, List.map_nil, hs, hx, hr]
  exact h

/-- a thing fewer -/
def dropT (t : List Th) (i : Nat) : List Th := t.take i ++ t.drop (i + 1)

set_option maxRecDepth 100000 in
set_option maxHeartbeats 4000000 in
theorem without_any (w : World) (A : Option Addr) (c q i : Nat) (l : List Tg) (hq : l.length = q) (h : Ths w A l) (hA : A = none → c = 0) (hc : q ≤ c) (hi : i < q) :
    Calls Tryz.prog 74 #[tv A q c, .int .i64 (i : Int)] w (TrV w l (dropT (ths l) i)) := by
  have hl := h.len
  have hb0 := ((Below.refl w.heap.size w).alloc (Nat.le_refl _) (.cells #[.slice A q c] 29)).alloc (by simp) (.cells #[.slice none 0 0] 29)
  have HB0 := Lib.hid hb0
  have HX0 := Lib.hid (bx_new w (.slice A q c) (.slice none 0 0) 29 29)
  have HT := Lib.hid (h.keep hb0)
  have HW := Lib.hid h
  have hlq : q ≤ 1000000 := by omega
  have HQ := Lib.hid hq
  have HA := Lib.hid hA
  clear h hq hA hb0 hl
  obtain ⟨A1, hs1, hA1, ht1⟩ := ths_upto A q c i (by omega) hc HA.out
  obtain ⟨A2, hs2, hA2, ht2⟩ := ths_from A q c (i + 1) (by omega) hc HA.out
  have hw2 : IntKind.wrap .i64 ((i : Int) + 1) = (i : Int) + 1 := by rw [IntKind.wrap_i64]; omega
  have hs2 : ∀ W, (Instr.slice 27 (.slice A q c) (some (.int .i64 ((i : Int) + 1))) none none).run Tryz.prog W = .ok (.slice A2 (q - (i + 1)) (c - (i + 1))) W := hs2
  have hi0 : (0 : Int) ≤ (i : Int) := by omega
  have hi1 : (0 : Int) ≤ (i : Int) + 1 := by omega
  have hi2 : (i : Int) + 1 ≤ (q : Int) := by omega
  have hi3 : (i : Int) ≤ (c : Int) := by omega
  have HA1 := Lib.hid hA1
  have HA2 := Lib.hid hA2
  have HT1 := Lib.hid ht1
  have HT2 := Lib.hid ht2
  clear hA1 hA2 ht1 ht2
  go_enter Tryz.func74, Tryz.ntmps74
  go_upto_region 1 with fail
  generalize (w.alloc (.cells #[.slice A q c] 29)).alloc (.cells #[.slice none 0 0] 29) = w1 at *
  obtain ⟨b1, hb1⟩ : ∃ b1, b1 = w.heap.size + 1 := ⟨_, rfl⟩
  rw [← hb1] at HX0 ⊢
  have hbx := HX0.out.c0
  have hown0 : ((w1.alloc (.cells #[] 93)).drew).ownsRow w1.heap.size 93 3 (.slice (some ⟨w1.heap.size, 0, none⟩) 0 0) 0 [] := (World.ownsRow_made w1 #[] 0 (Nat.le_refl _) (by unfold maxLen; omega) rfl).drew
  have hbA := ((Below.refl w1.heap.size w1).alloc (Nat.le_refl _) (.cells #[] 93)).drew
  obtain ⟨G1, c1, w2, hap1, hown1, hgr1⟩ := app_ths c i (by rw [List.length_take, HQ.out]; omega) hown0 (by simp) (HT1.out _ l HQ.out (HT.out.keep hbA)) HA1.out (by omega)
  rw [Nat.zero_add, List.nil_append] at hown1
  rw [Nat.zero_add] at hap1
  have hbB : Below w1.heap.size w1 w2 := hbA.grown hgr1 (by simp) (fun k hk => row_base_lt3 hown0 hk)
  obtain ⟨G2, c2, w3, hap2, hown2, hgr2⟩ := app_ths (c - (i + 1)) (q - (i + 1)) (by rw [List.length_drop, HQ.out]) hown1 hbB.size (HT2.out _ l HQ.out (HT.out.keep hbB)) HA2.out (by omega)
  have hbC : Below w1.heap.size w1 w3 := hbB.grown hgr2 hbB.size (fun k hk => row_base_lt3 hown1 hk)
  have hx2 := (hbB.cell (p := ⟨w.heap.size, 0, none⟩) HX0.out.l0).trans hbx
  have hx3 := (hbC.cell (p := ⟨w.heap.size, 0, none⟩) HX0.out.l0).trans hbx
  have hxC := HX0.out.keep hbC
  have hcc := hxC.c1
  have hff := hxC.f1
  have hss := World.cell?_setCell_same w3 ⟨b1, 0, none⟩ (.slice G2 (i + (q - (i + 1))) c2) hcc
  have hx4 : (w3.setCell ⟨b1, 0, none⟩ (.slice G2 (i + (q - (i + 1))) c2)).cell? ⟨w.heap.size, 0, none⟩ = some (.slice A q c) := by
    rw [World.cell?_setCell_other _ _ _ _ (fun e => by injection e with e; omega)]
    exact hx3
  have hcap := Pat.row_cap hown2
  have hlz : (l.take i ++ l.drop (i + 1)).length = i + (q - (i + 1)) := by rw [List.length_append, List.length_take, List.length_drop, HQ.out]; omega
  have hfin : TrV w l (dropT (ths l) i) (.returned (tv G2 (i + (q - (i + 1))) c2)) (w3.setCell ⟨b1, 0, none⟩ (.slice G2 (i + (q - (i + 1))) c2)) := by
    have hbz : Below w.heap.size w (w3.setCell ⟨b1, 0, none⟩ (.slice G2 (i + (q - (i + 1))) c2)) := (HB0.out.trans (hbC.mono HB0.out.size)).setCell (p := ⟨b1, 0, none⟩) (by simp only; omega) _
    have hth := HW.out.keep hbz
    have hot := (own_ths (l := l.take i ++ l.drop (i + 1)) (own_set (b := b1) (by rw [tcells_append]; exact hown2) HX0.out.l1 0 (.slice G2 (i + (q - (i + 1))) c2)) (by omega)
      (fun g hg => hth.nm g ((List.mem_append.1 hg).elim List.mem_of_mem_take List.mem_of_mem_drop))
      (fun g hg => hth.sz g ((List.mem_append.1 hg).elim List.mem_of_mem_take List.mem_of_mem_drop))).1
    refine ⟨G2, c2, l.take i ++ l.drop (i + 1), by rw [hlz], hot, by simp [ths, dropT, List.map_take, List.map_drop], fun e => ?_, by rw [hlz]; exact hcap, hbz, fun a e => ?_, fun g hg => ⟨g, (List.mem_append.1 hg).elim List.mem_of_mem_take List.mem_of_mem_drop, rfl, rfl, rfl⟩⟩
    · subst e
      rcases hown2.2 with ⟨e, _⟩ | ⟨g, cap, cur, e, _⟩
      · injection e
      · injection e with e
        cases e
    · subst e
      have h1 := row_base_lt3 hown2 (g := a.block) (by
        rcases hown2.2 with ⟨e, _⟩ | ⟨g, cap, cur, e, _⟩
        · cases e
        · injection e with e
          injection e with e
          subst e
          rfl)
      have h2 := HB0.out.size
      omega
  have HF := Lib.hid hfin
  have HAP1 := Lib.hid hap1
  have HAP2 := Lib.hid hap2
  have HO2 := Lib.hid hown2
  have HBC := Lib.hid hbC
  have HL1 := Lib.hid HX0.out.l1
  have HBB1 := Lib.hid hb1
  clear hap1 hap2 hown0 hown1 hown2 hgr1 hgr2 hbA hbB hbC hxC hb1 hfin hcap hlz
  go_wp2_with fail
  go_region_held3 (fun W' => W'.cell? ⟨w.heap.size, 0, none⟩ = some (.slice A q c)) (go_keep)
    (first
    | ((refine step_append_run (by rfl) (.tmp 5) (.tmp 9) 27 (by rfl) _ _ _ (by rfl) (by rfl) HAP1.out ?_))
    | ((refine step_append_run (by rfl) (.tmp 10) (.tmp 15) 27 (by rfl) _ _ _ (by rfl) (by rfl) HAP2.out ?_)))
  go_wp2
  refine bodyPost_ret (v := tv G2 (i + (q - (i + 1))) c2) ?_ rfl HF.out
  simp [results, Tryz.results74, go_sem, hss]
end Tre
end Go.Proofs.YtkhkcfbacnkcnaaGreatDoor
/- What stands in a tree, by its names; what a thing more, other bytes, a thing fewer make of it. Of no program. -/
namespace Go.Proofs.YtkhkcfbacnkcnaaGreatDoor
open Go.RowKit Go.MapKept
namespace Trk
open Tre (Nm Th fi isDirAt dirT goT goF setT dropT)

/-- what stands there: whether it is a directory, the bytes -/
def T (t : List Th) (n : Nm) : Option (Bool × ByteArray) := if n = [] then some (true, ByteArray.empty) else (fi t n).bind fun i => t[i]?.map (·.2)
theorem T_root (t : List Th) : T t [] = some (true, ByteArray.empty) := if_pos rfl
theorem T_fi {t : List Th} {n : Nm} {i : Nat} (h0 : n ≠ []) (h : fi t n = some i) : ∃ h : i < t.length, T t n = some t[i].2 := by
  obtain ⟨h1, _, _⟩ := Tre.fi_some h
  refine ⟨h1, ?_⟩
  unfold T
  rw [if_neg h0, h]
  simp [List.getElem?_eq_getElem h1]
theorem T_none {t : List Th} {n : Nm} (h0 : n ≠ []) (h : fi t n = none) : T t n = none := by
  unfold T
  rw [if_neg h0, h]
  rfl
theorem T_no {t : List Th} {n : Nm} (h : T t n = none) : n ≠ [] ∧ fi t n = none := by
  have h0 : n ≠ [] := fun e => by rw [e, T_root] at h; cases h
  refine ⟨h0, ?_⟩
  cases hf : fi t n with
  | none => rfl
  | some i =>
    obtain ⟨_, h1⟩ := T_fi h0 hf
    rw [h1] at h
    cases h
theorem T_mem {t : List Th} {n : Nm} (h0 : n ≠ []) {v : Bool × ByteArray} (h : T t n = some v) : (n, v) ∈ t := by
  cases hf : fi t n with
  | none => rw [T_none h0 hf] at h; cases h
  | some i =>
    obtain ⟨h1, h2⟩ := T_fi h0 hf
    obtain ⟨_, h3, _⟩ := Tre.fi_some hf
    rw [h2] at h
    injection h with h
    have : t[i] = (n, v) := by rw [← h, ← h3]
    rw [← this]
    exact List.getElem_mem h1
theorem fi_mem {t : List Th} {x : Th} (h : x ∈ t) : ∃ i, fi t x.1 = some i := by
  cases hf : fi t x.1 with
  | some i => exact ⟨i, rfl⟩
  | none =>
    unfold Tre.fi at hf
    rw [List.findIdx?_eq_none_iff] at hf
    have := hf x h
    simp at this
/-- each names stand once -/
def Once (t : List Th) : Prop := (t.map (·.1)).Nodup
theorem once_at {t : List Th} (h : Once t) {i j : Nat} (hi : i < t.length) (hj : j < t.length) (e : t[i].1 = t[j].1) : i = j := by
  have := List.pairwise_iff_getElem.1 h
  rcases Nat.lt_trichotomy i j with hl | hl | hl
  · exact absurd (show (t.map (·.1))[i]'(by simpa using hi) = (t.map (·.1))[j]'(by simpa using hj) by rw [List.getElem_map, List.getElem_map]; exact e) (this i j (by simpa using hi) (by simpa using hj) hl)
  · exact hl
  · exact absurd (show (t.map (·.1))[j]'(by simpa using hj) = (t.map (·.1))[i]'(by simpa using hi) by rw [List.getElem_map, List.getElem_map]; exact e.symm) (this j i (by simpa using hj) (by simpa using hi) hl)
theorem mem_T {t : List Th} (h : Once t) {x : Th} (hx : x ∈ t) (h0 : x.1 ≠ []) : T t x.1 = some x.2 := by
  obtain ⟨i, hi⟩ := fi_mem hx
  obtain ⟨h1, h2⟩ := T_fi h0 hi
  obtain ⟨_, h3, _⟩ := Tre.fi_some hi
  obtain ⟨j, hj, rfl⟩ := List.getElem_of_mem hx
  have := once_at h h1 hj h3
  subst this
  exact h2
theorem fi_app {t : List Th} {x : Th} (h : fi t x.1 = none) (n : Nm) : fi (t ++ [x]) n = if n = x.1 then some t.length else fi t n := by
  have hx : ∀ y ∈ t, y.1 ≠ x.1 := fun y hy e => by
    obtain ⟨i, hi⟩ := fi_mem hy
    rw [e, h] at hi
    cases hi
  by_cases e : n = x.1
  · subst e
    rw [if_pos rfl]
    refine Tre.fi_at (by simp) (by simp) (fun j hj => ?_)
    rw [List.getElem_append_left hj]
    exact hx _ (List.getElem_mem _)
  · rw [if_neg e]
    cases hf : fi t n with
    | none =>
      refine Tre.fi_none (fun j hj => ?_)
      by_cases hjt : j < t.length
      · rw [List.getElem_append_left hjt]
        intro e'
        obtain ⟨i, hi⟩ := fi_mem (List.getElem_mem hjt)
        rw [e', hf] at hi
        cases hi
      · have : j = t.length := by simp at hj; omega
        subst this
        simpa using fun e' : x.1 = n => e e'.symm
    | some i =>
      obtain ⟨h1, h2, h3⟩ := Tre.fi_some hf
      refine Tre.fi_at (by simp; omega) (by rw [List.getElem_append_left h1]; exact h2) (fun j hj => ?_)
      rw [List.getElem_append_left (by omega)]
      exact h3 j hj
theorem T_app {t : List Th} {x : Th} (h0 : x.1 ≠ []) (h : fi t x.1 = none) (n : Nm) : T (t ++ [x]) n = if n = x.1 then some x.2 else T t n := by
  by_cases e : n = x.1
  · subst e
    rw [if_pos rfl]
    obtain ⟨h1, h2⟩ := T_fi (t := t ++ [x]) (i := t.length) h0 (by rw [fi_app h, if_pos rfl])
    rw [h2]
    simp
  · rw [if_neg e]
    unfold T
    by_cases hn : n = []
    · rw [if_pos hn, if_pos hn]
    · rw [if_neg hn, if_neg hn, fi_app h, if_neg e]
      cases hf : fi t n with
      | none => rfl
      | some i =>
        obtain ⟨h1, _, _⟩ := Tre.fi_some hf
        simp only [Option.bind_some]
        rw [List.getElem?_append_left h1]
theorem setT_len : ∀ (t : List Th) (i : Nat) (s : ByteArray), (setT t i s).length = t.length
  | [], _, _ => rfl
  | _ :: _, 0, _ => rfl
  | _ :: t, i + 1, s => by rw [setT, List.length_cons, List.length_cons, setT_len t i s]
theorem setT_at : ∀ (t : List Th) (i j : Nat) (s : ByteArray), (setT t i s)[j]? = t[j]?.map fun x => if j = i then (x.1, x.2.1, s) else x
  | [], i, j, s => by simp [setT]
  | x :: t, 0, 0, s => by simp [setT]
  | x :: t, 0, j + 1, s => by simp [setT]
  | x :: t, i + 1, 0, s => by simp [setT]
  | x :: t, i + 1, j + 1, s => by
    rw [setT, List.getElem?_cons_succ, List.getElem?_cons_succ, setT_at t i j s]
    simp
theorem setT_names (t : List Th) (i : Nat) (s : ByteArray) : (setT t i s).map (·.1) = t.map (·.1) := by
  apply List.ext_getElem?
  intro j
  rw [List.getElem?_map, List.getElem?_map, setT_at]
  cases t[j]? with
  | none => rfl
  | some x => simp only [Option.map_some]; split <;> rfl
theorem fi_set (t : List Th) (i : Nat) (s : ByteArray) (n : Nm) : fi (setT t i s) n = fi t n := by
  have key : ∀ u : List Th, fi u n = (u.map (·.1)).findIdx? (fun x => decide (x = n)) := fun u => by
    unfold Tre.fi
    rw [List.findIdx?_map]
    rfl
  rw [key, key, setT_names]
theorem T_set {t : List Th} {p : Nm} {i : Nat} (h0 : p ≠ []) (h : fi t p = some i) {d : Bool} {s : ByteArray} (hv : T t p = some (d, s)) (u : ByteArray) (n : Nm) : T (setT t i u) n = if n = p then some (d, u) else T t n := by
  obtain ⟨h1, h2, _⟩ := Tre.fi_some h
  unfold T
  rw [fi_set]
  by_cases e : n = p
  · subst e
    rw [if_pos rfl, if_neg h0, h]
    obtain ⟨h3, h4⟩ := T_fi h0 h
    rw [hv] at h4
    injection h4 with h4
    simp only [Option.bind_some]
    rw [setT_at, List.getElem?_eq_getElem h1]
    simp [← h4]
  · rw [if_neg e]
    by_cases hn : n = []
    · rw [if_pos hn, if_pos hn]
    · rw [if_neg hn, if_neg hn]
      cases hf : fi t n with
      | none => rfl
      | some j =>
        obtain ⟨g1, g2, _⟩ := Tre.fi_some hf
        simp only [Option.bind_some]
        rw [setT_at, List.getElem?_eq_getElem g1]
        have : j ≠ i := fun e' => by
          subst e'
          exact e (g2.symm.trans h2)
        simp [this]
theorem once_drop {t : List Th} (h : Once t) (i : Nat) : Once (dropT t i) := by
  unfold Once Tre.dropT at *
  rw [← List.eraseIdx_eq_take_drop_succ]
  exact ((List.eraseIdx_sublist t i).map _).nodup h
theorem mem_drop {t : List Th} (h : Once t) {i : Nat} (hi : i < t.length) (x : Th) : x ∈ dropT t i ↔ x ∈ t ∧ x.1 ≠ t[i].1 := by
  unfold Tre.dropT
  rw [List.mem_append]
  constructor
  · rintro (hx | hx)
    · obtain ⟨j, hj, rfl⟩ := List.getElem_of_mem hx
      have hj' : j < i := by simp at hj; omega
      rw [List.getElem_take]
      exact ⟨List.getElem_mem _, fun e => by have := once_at h (by omega) hi e; omega⟩
    · obtain ⟨j, hj, rfl⟩ := List.getElem_of_mem hx
      rw [List.getElem_drop]
      exact ⟨List.getElem_mem _, fun e => by have := once_at h (by simp at hj; omega) hi e; omega⟩
  · rintro ⟨hx, hne⟩
    obtain ⟨j, hj, rfl⟩ := List.getElem_of_mem hx
    have hji : j ≠ i := fun e => by subst e; exact hne rfl
    rcases Nat.lt_or_gt_of_ne hji with hl | hl
    · refine .inl (List.mem_of_getElem? (i := j) ?_)
      rw [List.getElem?_take, if_pos hl, List.getElem?_eq_getElem hj]
    · refine .inr (List.mem_of_getElem? (i := j - (i + 1)) ?_)
      rw [List.getElem?_drop, show i + 1 + (j - (i + 1)) = j by omega, List.getElem?_eq_getElem hj]
theorem T_drop {t : List Th} (h : Once t) {p : Nm} {i : Nat} (h0 : p ≠ []) (hi : fi t p = some i) (n : Nm) : T (dropT t i) n = if n = p then none else T t n := by
  obtain ⟨h1, h2, _⟩ := Tre.fi_some hi
  by_cases e : n = p
  · subst e
    rw [if_pos rfl]
    refine T_none h0 ?_
    cases hf : fi (dropT t i) n with
    | none => rfl
    | some j =>
      obtain ⟨g1, g2, _⟩ := Tre.fi_some hf
      exact absurd (g2.trans h2.symm) ((mem_drop h h1 _).1 (List.getElem_mem g1)).2
  · rw [if_neg e]
    by_cases hn : n = []
    · subst hn; rw [T_root, T_root]
    cases hv : T t n with
    | some v =>
      have hm := T_mem hn hv
      exact mem_T (once_drop h i) ((mem_drop h h1 (n, v)).2 ⟨hm, fun e' => e (e'.trans h2)⟩) hn
    | none =>
      cases hv' : T (dropT t i) n with
      | none => rfl
      | some v =>
        have hm := ((mem_drop h h1 _).1 (T_mem hn hv')).1
        rw [mem_T h hm hn] at hv
        cases hv
end Trk
end Go.Proofs.YtkhkcfbacnkcnaaGreatDoor
/- The program's tree as it lies in memory: for each thing a block, its bytes' row, its map. -/
namespace Go.Proofs.YtkhkcfbacnkcnaaGreatDoor
open Go.RowKit Go.MapKept
namespace Trk
open Tre (Nm Th fi setT dropT)

/-- where a thing lies: its block, where its bytes are, what room they have, its map -/
structure Nd where
  b : Nat
  A : Option Addr
  c : Nat
  m : Option Nat
/-- the blocks that are its own -/
def own (x : Nd) : List Nat := x.b :: (x.m.toList ++ (x.A.map (·.block)).toList)

/-- how a map's element reads: the block that it points to -/
def Rp : Value → Option (DataW Unit × List MemPlace)
  | .pointer none => some (.nil, [])
  | .pointer (some ⟨b, 0, none⟩) => some (.lit (.int .i64 (b : Int)), [])
  | _ => none
def pd : Option Nat → DataW Unit
  | none => .nil
  | some b => .lit (.int .i64 (b : Int))
def pv : Option Nat → Value
  | none => .pointer none
  | some b => .pointer (some ⟨b, 0, none⟩)
theorem rp_pv (o : Option Nat) : Rp (pv o) = some (pd o, []) := by cases o <;> rfl
theorem rp_inv {v : Value} {o : Option Nat} {ps : List MemPlace} (h : Rp v = some (pd o, ps)) : v = pv o := by
  cases o with
  | none =>
    unfold Rp pd at h
    split at h
    · rfl
    · simp at h
    · simp at h
  | some b =>
    unfold Rp pd at h
    split at h
    · simp at h
    · rename_i b'
      simp at h
      obtain rfl : b' = b := by omega
      rfl
    · simp at h
/-- a map that is asked by names -/
structure Ask (w : World) (g N : Nat) (f : ByteArray → Option Nat) (D : DataW Unit) : Prop where
  own : w.ownsMap Tryz.prog 9 Rp g N D
  ask : ∀ s : ByteArray, s.size ≤ maxLen → D.atKey (.string s.data.toList) .nil = pd (f s)
  non : ∀ s : ByteArray, f s = none → Maps.has D (.string s.data.toList) = false
theorem Ask.block {w w' : World} {g N : Nat} {f : ByteArray → Option Nat} {D : DataW Unit} (h : Ask w g N f D) (hb : w'.heap[g]? = w.heap[g]?) : Ask w' g N f D :=
  ⟨by obtain ⟨es, clock, h1, h2⟩ := h.own; exact ⟨es, clock, hb.trans h1, h2⟩, h.ask, h.non⟩
theorem key_of {s : ByteArray} (hs : s.size ≤ maxLen) : keyOf Tryz.prog 9 (.string s) = some (.string s.data.toList) := by
  simp [keyOf, mapKey, Tryz.underlying9, hs]
theorem keyed : Go.Maps.Keyed Tryz.prog 9 := Go.Maps.string_keyed Tryz.underlying9
theorem zero_p (w : World) : (zeroValue 96).run Tryz.prog w = .ok (.pointer none) w := by
  first | exact Tryz.zeroValue96 w | exact Tryz.zeroValue96
theorem Ask.look {w : World} {g N : Nat} {f : ByteArray → Option Nat} {D : DataW Unit} (h : Ask w g N f D) (s : ByteArray) (hs : s.size ≤ maxLen) :
    (Instr.lookup 74 (.map (some g)) (.string s) false).run Tryz.prog w = .ok (pv (f s)) w := by
  obtain ⟨v, ps, h1, h2⟩ := h.own.lookup keyed Tryz.underlying74 (zero_p w) (zd := .nil) (zp := []) rfl (key_of hs)
  rw [h.ask s hs] at h2
  rw [h1, rp_inv h2]
theorem look_nil (w : World) (s : ByteArray) (hs : s.size ≤ maxLen) : (Instr.lookup 74 (.map none) (.string s) false).run Tryz.prog w = .ok (.pointer none) w :=
  Maps.look_nil false keyed Tryz.underlying74 (zero_p w) (key_of hs)
theorem data_inj {s u : ByteArray} (h : s.data.toList = u.data.toList) : s = u := by
  apply ByteArray.ext
  exact Array.toList_inj.1 h
/-- an entry more -/
theorem Ask.store {w : World} {g N : Nat} {f : ByteArray → Option Nat} {D : DataW Unit} (h : Ask w g N f D) (s : ByteArray) (hs : s.size ≤ maxLen) (b : Nat) (hN : N ≤ 1000000) :
    ∃ w' D', (Instr.mapUpdate 74 (.map (some g)) (.string s) (.pointer (some ⟨b, 0, none⟩))).run Tryz.prog w = .ok () w' ∧ Ask w' g (N + 1) (fun x => if x = s then some b else f x) D' ∧ w.grownBy w' (some g) := by
  obtain ⟨w', h1, h2, h3⟩ := h.own.update keyed Tryz.underlying74 (by unfold maxLen; omega) (key_of hs) (rp_pv (some b))
  refine ⟨w', _, h1, ⟨h2, fun x hx => ?_, fun x hx => ?_⟩, h3⟩
  · by_cases e : x = s
    · subst e
      rw [if_pos rfl, Maps.atKey_put_same (k := .string x.data.toList) h.own.isMap trivial]
    · rw [if_neg e, Maps.atKey_put_other (fun e' => e (data_inj (by injection e'))), h.ask x hx]
  · by_cases e : x = s
    · rw [if_pos e] at hx
      cases hx
    · rw [if_neg e] at hx
      rw [Maps.has_put_other (fun e' => e (data_inj (by injection e')))]
      exact h.non x hx
/-- an entry fewer -/
theorem Ask.strike {w : World} {g N : Nat} {f : ByteArray → Option Nat} {D : DataW Unit} (h : Ask w g N f D) (s : ByteArray) (hs : s.size ≤ maxLen) (ty : TypeId) :
    ∃ w' D', (Builtin.delete_ #[74, 9] ty #[.map (some g), .string s]).run Tryz.prog w = .ok (.tuple #[]) w' ∧ Ask w' g N (fun x => if x = s then none else f x) D' ∧ w.grownBy w' (some g) := by
  obtain ⟨w', h1, h2, h3⟩ := h.own.drop keyed Tryz.underlying74 (key_of hs) ty
  refine ⟨w', _, h1, ⟨h2, fun x hx => ?_, fun x hx => ?_⟩, h3.grown⟩
  · by_cases e : x = s
    · subst e
      rw [if_pos rfl, Maps.atKey_del_same]
      rfl
    · rw [if_neg e, Maps.atKey_del_other (fun e' => e (data_inj (by injection e'))), h.ask x hx]
  · by_cases e : x = s
    · subst e
      exact Maps.has_del_same
    · rw [if_neg e] at hx
      rw [Maps.has_del_other (fun e' => e (data_inj (by injection e')))]
      exact h.non x hx
theorem ask_made (w : World) : Ask (w.alloc (.map #[] 0)) w.heap.size 0 (fun _ => none) (.map []) := ⟨World.ownsMap_made w _ _ _, fun _ _ => rfl, fun _ _ => rfl⟩

theorem Ask.has {w : World} {g N : Nat} {f : ByteArray → Option Nat} {D : DataW Unit} (h : Ask w g N f D) (s : ByteArray) (hs : s.size ≤ maxLen) : Maps.has D (.string s.data.toList) = (f s).isSome := by
  cases hf : f s with
  | none => exact h.non s hf
  | some b =>
    cases hh : Maps.has D (.string s.data.toList) with
    | true => rfl
    | false =>
      have := h.ask s hs
      rw [Maps.atKey_of_not_has hh, hf] at this
      cases this
/-- its keys -/
theorem Ask.keys {w : World} {g N : Nat} {f : ByteArray → Option Nat} {D : DataW Unit} (h : Ask w g N f D) {ks : List ByteArray} (hk : ks.Nodup) (hm : ∀ x, x ∈ ks ↔ (f x).isSome = true) (hl : ∀ x ∈ ks, x.size ≤ maxLen) : (ks.map fun x => x.data.toList).Perm (strKeys D) ∧ Maps.size D = ks.length := by
  obtain ⟨es, hD, hpw, _⟩ := h.own.entries keyed
  obtain ⟨es', hD', hko⟩ := h.own.keysOf
  obtain rfl : es = es' := by rw [hD] at hD'; simpa using hD'
  subst hD
  have hp : (ks.map fun x => x.data.toList).Perm (strKeys (.map es)) := by
    refine perm_strKeys hpw (fun p hp => by obtain ⟨v, hv⟩ := hko p hp; obtain ⟨x, _, hx, _⟩ := Maps.keyOf_str Tryz.underlying9 hv; exact ⟨x, hx⟩) (List.pairwise_map.2 (hk.imp fun hne e => hne (data_inj e))) (fun x => ?_)
    rw [List.mem_map]
    constructor
    · rintro ⟨y, hy, rfl⟩
      rw [h.has y (hl y hy)]
      exact (hm y).1 hy
    · intro hx
      have hxs : x ∈ strKeys (.map es) := by
        rw [Maps.has_eq, List.any_eq_true] at hx
        obtain ⟨p, hp, e⟩ := hx
        exact List.mem_map.2 ⟨p, hp, by rw [WideAt.sameKey_eq e]; rfl⟩
      have hxl := strKeys_le h.own Tryz.underlying9 x hxs
      refine ⟨⟨x.toArray⟩, (hm _).2 ?_, by simp⟩
      rw [← h.has ⟨x.toArray⟩ (show x.toArray.size ≤ maxLen by simpa using hxl)]
      simpa using hx
  refine ⟨hp, ?_⟩
  have := hp.length_eq
  rw [List.length_map] at this
  rw [this]
  show es.length = (es.map _).length
  rw [List.length_map]

/-- a directory's names by its map, or none -/
def Kd (w : World) (N : Nat) (f : ByteArray → Option Nat) : Option Nat → Prop
  | none => ∀ x, f x = none
  | some g => ∃ D, Ask w g N f D
theorem Kd.congr {w : World} {N : Nat} {f f' : ByteArray → Option Nat} {m : Option Nat} (h : Kd w N f m) (e : ∀ x, f x = f' x) : Kd w N f' m := by
  have : f = f' := funext e
  rw [← this]
  exact h
theorem Kd.mono {w : World} {N N' : Nat} {f : ByteArray → Option Nat} {m : Option Nat} (h : Kd w N f m) (hN : N ≤ N') : Kd w N' f m := by
  cases m with
  | none => exact h
  | some g => obtain ⟨D, hD⟩ := h; exact ⟨D, hD.own.mono hN, hD.ask, hD.non⟩
/-- the blocks of what is in a directory -/
def kb (t : List Th) (L : Nm → Nd) (p : Nm) (x : ByteArray) : Option Nat := (T t (p ++ [x])).map fun _ => (L (p ++ [x])).b
/-- a thing as it lies -/
structure Nod (w : World) (N : Nat) (x : Nd) (f : ByteArray → Option Nat) (d : Bool) (s : ByteArray) : Prop where
  box : ∃ ty, w.heap[x.b]? = some (.cells #[.bool (!d), .slice x.A s.size x.c, .map x.m] ty (0, 0))
  row : w.ownsRow 0 5 1 (.slice x.A s.size x.c) s.size (Crc.u8s (Crc.tx s))
  map : Kd w N f x.m
theorem Nod.block {w w' : World} {N : Nat} {x : Nd} {f : ByteArray → Option Nat} {d : Bool} {s : ByteArray} (h : Nod w N x f d s) (hb : ∀ i ∈ own x, w'.heap[i]? = w.heap[i]?) : Nod w' N x f d s := by
  refine ⟨?_, ?_, ?_⟩
  · obtain ⟨ty, h1⟩ := h.box
    exact ⟨ty, (hb _ (by simp [own])).trans h1⟩
  · rcases h.row with ⟨h1, h2⟩
    refine ⟨h1, ?_⟩
    rcases h2 with h0 | ⟨g, cap, cur, e, hB, hh, hr⟩
    · exact .inl h0
    · have hA : x.A = some ⟨g, 0, none⟩ := by injection e
      exact .inr ⟨g, cap, cur, e, hB, (hb g (by simp [own, hA])).trans hh, hr⟩
  · have := h.map
    cases hm : x.m with
    | none => rw [hm] at this; exact this
    | some g =>
      rw [hm] at this
      obtain ⟨D, hD⟩ := this
      exact ⟨D, hD.block (hb g (by simp [own, hm]))⟩
theorem Nod.lt {w : World} {N : Nat} {x : Nd} {f : ByteArray → Option Nat} {d : Bool} {s : ByteArray} (h : Nod w N x f d s) : ∀ i ∈ own x, i < w.heap.size := by
  intro i hi
  simp only [own, List.mem_cons, List.mem_append, Option.mem_toList] at hi
  rcases hi with rfl | hi | hi
  · obtain ⟨ty, h1⟩ := h.box
    exact (Array.getElem?_eq_some_iff.1 h1).1
  · have := h.map
    rw [hi] at this
    obtain ⟨D, hD⟩ := this
    exact hD.own.lt
  · rcases h.row with ⟨_, h0 | ⟨g, cap, cur, e, hB, hh, hr⟩⟩
    · have hA : x.A = none := by injection h0.1
      rw [hA] at hi
      simp at hi
    · have hA : x.A = some ⟨g, 0, none⟩ := by injection e
      rw [hA] at hi
      simp at hi
      subst hi
      exact (Array.getElem?_eq_some_iff.1 hh).1

section
variable {w : World} {N : Nat} {x : Nd} {f : ByteArray → Option Nat} {d : Bool} {s : ByteArray} (h : Nod w N x f d s)
include h
theorem Nod.c0 : w.cell? ⟨x.b, 0, none⟩ = some (.bool (!d)) := by
  obtain ⟨ty, h1⟩ := h.box
  simp [World.cell?, h1]
theorem Nod.c1 : w.cell? ⟨x.b, 1, none⟩ = some (.slice x.A s.size x.c) := by
  obtain ⟨ty, h1⟩ := h.box
  simp [World.cell?, h1]
theorem Nod.c2 : w.cell? ⟨x.b, 2, none⟩ = some (.map x.m) := by
  obtain ⟨ty, h1⟩ := h.box
  simp [World.cell?, h1]
theorem Nod.fr (o : Nat) : w.frozen? ⟨x.b, o, none⟩ = false := by
  obtain ⟨ty, h1⟩ := h.box
  simp [World.frozen?, h1]
theorem Nod.look (z : ByteArray) (hz : z.size ≤ maxLen) : (Instr.lookup 74 (.map x.m) (.string z) false).run Tryz.prog w = .ok (pv (f z)) w := by
  have := h.map
  cases hm : x.m with
  | none =>
    rw [hm] at this
    rw [this z]
    exact look_nil w z hz
  | some g =>
    rw [hm] at this
    obtain ⟨D, hD⟩ := this
    exact hD.look z hz
theorem Nod.blt : x.b < w.heap.size := h.lt _ (by simp [own])
end

/-- a tree as it lies: its things, each apart -/
structure Mem (w : World) (N : Nat) (t : List Th) (L : Nm → Nd) : Prop where
  nod : ∀ p d s, T t p = some (d, s) → Nod w N (L p) (kb t L p) d s
  one : ∀ p v, T t p = some v → (own (L p)).Nodup
  apart : ∀ p q v u, T t p = some v → T t q = some u → p ≠ q → ∀ i ∈ own (L p), i ∉ own (L q)
/-- its blocks -/
def Fp (t : List Th) (L : Nm → Nd) (i : Nat) : Prop := ∃ p v, T t p = some v ∧ i ∈ own (L p)
theorem Mem.lt {w : World} {N : Nat} {t : List Th} {L : Nm → Nd} (h : Mem w N t L) {i : Nat} (hi : Fp t L i) : i < w.heap.size := by
  obtain ⟨p, ⟨d, s⟩, h1, h2⟩ := hi
  exact (h.nod p d s h1).lt i h2
theorem Mem.block {w w' : World} {N : Nat} {t : List Th} {L : Nm → Nd} (h : Mem w N t L) (hb : ∀ i, Fp t L i → w'.heap[i]? = w.heap[i]?) : Mem w' N t L :=
  ⟨fun p d s e => (h.nod p d s e).block fun i hi => hb i ⟨p, _, e, hi⟩, h.one, h.apart⟩
theorem Mem.keep {w w' : World} {N : Nat} {t : List Th} {L : Nm → Nd} (h : Mem w N t L) (hb : Below w.heap.size w w') : Mem w' N t L := h.block fun i hi => hb.block i (h.lt hi)
/-- what stands elsewhere stays -/
theorem Mem.step {w w' : World} {N N' : Nat} {t t' : List Th} {L L' : Nm → Nd} (h : Mem w N t L) (S : Nm → Prop) (hN : N ≤ N')
    (hT : ∀ q, ¬ S q → T t' q = T t q) (hL : ∀ q, ¬ S q → L' q = L q)
    (hH : ∀ q v, T t q = some v → ¬ S q → ∀ i ∈ own (L q), w'.heap[i]? = w.heap[i]?)
    (hC : ∀ q x v, T t q = some v → ¬ S q → kb t' L' q x = kb t L q x)
    (hn : ∀ q d s, S q → T t' q = some (d, s) → Nod w' N' (L' q) (kb t' L' q) d s)
    (h1 : ∀ q v, S q → T t' q = some v → (own (L' q)).Nodup)
    (ha : ∀ q r v u, S q → T t' q = some v → T t' r = some u → r ≠ q → ∀ i ∈ own (L' q), i ∉ own (L' r)) : Mem w' N' t' L' := by
  refine ⟨fun p d s e => ?_, fun p v e => ?_, fun p q v u ep eq hne i hi => ?_⟩
  · by_cases hS : S p
    · exact hn p d s hS e
    · have e' := (hT p hS).symm.trans e
      have := (h.nod p d s e').block (hH p _ e' hS)
      rw [hL p hS]
      exact ⟨this.box, this.row, (this.map.congr fun x => (hC p x _ e' hS).symm).mono hN⟩
  · by_cases hS : S p
    · exact h1 p v hS e
    · rw [hL p hS]
      exact h.one p v ((hT p hS).symm.trans e)
  · by_cases hS : S p
    · exact ha p q v u hS ep eq (fun e => hne e.symm) i hi
    · by_cases hS' : S q
      · intro hi'
        exact ha q p u v hS' eq ep hne i hi' hi
      · rw [hL p hS] at hi
        rw [hL q hS']
        exact h.apart p q v u ((hT p hS).symm.trans ep) ((hT q hS').symm.trans eq) hne i hi

/-- all is as it was, but for some blocks -/
structure Chg (F : Nat → Prop) (w w' : World) : Prop where
  os : w'.os = w.os
  tape : w'.tape = w.tape
  output : w'.output = w.output
  size : w.heap.size ≤ w'.heap.size
  block : ∀ k, k < w.heap.size → ¬ F k → w'.heap[k]? = w.heap[k]?
theorem Chg.refl (F : Nat → Prop) (w : World) : Chg F w w := ⟨rfl, rfl, rfl, Nat.le_refl _, fun _ _ _ => rfl⟩
theorem Chg.of_below {F : Nat → Prop} {w w' : World} (h : Below w.heap.size w w') : Chg F w w' := ⟨h.os, h.tape, h.output, h.size, fun k hk _ => h.block k hk⟩
theorem Chg.trans {F G : Nat → Prop} {a b c : World} (h : Chg F a b) (k : Chg G b c) (hG : ∀ i, G i → F i ∨ a.heap.size ≤ i) : Chg F a c :=
  ⟨k.os.trans h.os, k.tape.trans h.tape, k.output.trans h.output, Nat.le_trans h.size k.size, fun i hi hF => (k.block i (Nat.lt_of_lt_of_le hi h.size) (fun hg => by rcases hG i hg with h' | h'; exact hF h'; omega)).trans (h.block i hi hF)⟩
theorem Chg.then {F : Nat → Prop} {a b c : World} (h : Chg F a b) (k : Below b.heap.size b c) : Chg F a c := h.trans (Chg.of_below (F := fun _ => False) k) (fun _ h => h.elim)
theorem Chg.after {F : Nat → Prop} {a b c : World} (h : Below a.heap.size a b) (k : Chg F b c) : Chg F a c := (Chg.of_below h).trans k (fun _ h => .inl h)
theorem Chg.grown {F : Nat → Prop} {a b : World} {g : Nat} (h : a.grownBy b (some g)) (hg : F g) : Chg F a b := ⟨h.os, h.tape, h.output, h.size, fun k hk hF => h.block k hk (fun e => by injection e with e; subst e; exact hF hg)⟩
theorem Chg.below {F : Nat → Prop} {a b : World} {B : Nat} (h : Chg F a b) (hB : B ≤ a.heap.size) (hF : ∀ i, F i → B ≤ i) : Below B a b := ⟨h.os, h.tape, h.output, h.size, fun k hk => h.block k (by omega) (fun hf => by have := hF k hf; omega)⟩
end Trk
end Go.Proofs.YtkhkcfbacnkcnaaGreatDoor
/- The library's bodies (internal/stringslite.Clone) as they stand in this program, in plain words. -/
namespace Go.Proofs
open Go.Shelf
def Tryz.cloneA_ren : Go.Shelf.Ren := ⟨fun | 316 => 103 | n => n, fun | 9 => 9 | 3 => 3 | 4 => 4 | 37 => 30 | 0 => 0 | 127 => 168 | 5 => 5 | n => n, fun | n => n⟩
theorem Tryz.cloneA : Go.Proofs.LaysM.n316 Tryz.prog Tryz.cloneA_ren := {
  mixed := by kernel_rfl
  f316 := Tryz.func103.trans (congrArg some (by kernel_rfl))
  t0 := Tryz.underlying0
  a0 := Tryz.isAgg0
  z0 := Tryz.sizeOf0
  v0 := Tryz.zeroValue0
  t3 := Tryz.underlying3
  a3 := Tryz.isAgg3
  z3 := Tryz.sizeOf3
  v3 := Tryz.zeroValue3
  t4 := Tryz.underlying4
  a4 := Tryz.isAgg4
  z4 := Tryz.sizeOf4
  v4 := Tryz.zeroValue4
  t9 := Tryz.underlying9
  a9 := Tryz.isAgg9
  z9 := Tryz.sizeOf9
  v9 := Tryz.zeroValue9
  t37 := Tryz.underlying30
  a37 := Tryz.isAgg30
  z37 := Tryz.sizeOf30
  v37 := Tryz.zeroValue30
  t127 := Tryz.underlying168
  a127 := Tryz.isAgg168
  z127 := Tryz.sizeOf168
  v127 := Tryz.zeroValue168
  t5 := Tryz.underlying5
  a5 := Tryz.isAgg5
  z5 := Tryz.sizeOf5
  v5 := Tryz.zeroValue5
  i0 := by kernel_rfl
  i3 := by kernel_rfl
  i4 := by kernel_rfl
  i5 := by kernel_rfl
  i9 := by kernel_rfl
  i37 := by kernel_rfl
  i127 := by kernel_rfl }
end Go.Proofs
/- The program's way to names. -/
namespace Go.Proofs.YtkhkcfbacnkcnaaGreatDoor
open Go.RowKit Go.MapKept
namespace Trk
open Tre (Nm Th fi isDirAt dirT goT goF setT dropT)
open Pat (Txs)

/-- a tree in which each thing has its directory -/
structure Wf (t : List Th) : Prop where
  once : Once t
  nm : ∀ x ∈ t, x.1 ≠ [] ∧ Pat.IsNames x.1
  up : ∀ p x v, T t (p ++ [x]) = some v → ∃ s, T t p = some (true, s)
  dat : ∀ p s, T t p = some (true, s) → s = ByteArray.empty
  size : ∀ x ∈ t, x.2.2.size ≤ 268435456

/-- what is told from the k-th names on -/
def rest (t : List Th) (n : Nm) (k : Nat) (d : Bool) : Int := if k = n.length then 0 else if d = false then 6 else goF t n (n.length - k) (k + 1)
theorem goT_rest (t : List Th) (n : Nm) : goT t n = rest t n 0 true := by
  unfold Tre.goT rest
  by_cases h : 0 = n.length
  · rw [if_pos h, ← h]
    rfl
  · rw [if_neg h, if_neg (by simp)]
    rfl
theorem rest_end {t : List Th} {n : Nm} {d : Bool} : rest t n n.length d = 0 := if_pos rfl
theorem rest_file {t : List Th} {n : Nm} {k : Nat} (hk : k < n.length) : rest t n k false = 6 := by
  unfold rest
  rw [if_neg (by omega), if_pos rfl]
theorem take_ne {n : Nm} {k : Nat} (hk : k < n.length) : n.take (k + 1) ≠ [] := fun e => by
  have := congrArg List.length e
  rw [List.length_take] at this
  simp at this
  rw [this] at hk
  simp at hk
theorem rest_none {t : List Th} {n : Nm} {k : Nat} (hk : k < n.length) (h : T t (n.take (k + 1)) = none) : rest t n k true = 4 := by
  unfold rest
  rw [if_neg (by omega), if_neg (by simp), show n.length - k = (n.length - k - 1) + 1 by omega]
  unfold Tre.goF
  rw [(T_no h).2]
theorem rest_some {t : List Th} {n : Nm} {k : Nat} (hk : k < n.length) {v : Bool × ByteArray} (h : T t (n.take (k + 1)) = some v) : rest t n k true = rest t n (k + 1) v.1 := by
  cases hf : fi t (n.take (k + 1)) with
  | none => rw [T_none (take_ne hk) hf] at h; cases h
  | some i =>
    obtain ⟨hi, h2⟩ := T_fi (take_ne hk) hf
    rw [h2] at h
    injection h with h
    have hd : isDirAt t i = v.1 := by unfold Tre.isDirAt; rw [List.getElem?_eq_getElem hi, ← h]
    unfold rest
    rw [if_neg (by omega), if_neg (by simp), show n.length - k = (n.length - (k + 1)) + 1 by omega]
    rw [Tre.goF, hf]
    simp only [hd]
    by_cases he : k + 1 = n.length
    · rw [if_neg (by omega), if_pos he, he, Nat.sub_self]
      rfl
    · rw [if_neg he]
      by_cases hv : v.1 = false
      · rw [if_pos ⟨by omega, hv⟩, if_pos hv]
      · rw [if_neg (fun h => hv h.2), if_neg hv]
theorem right_len {s : ByteArray} (h : Ent.Right (Crc.tx s)) : s.size ≤ maxLen := by
  have := h.1.2
  rw [Crc.tx_len] at this
  unfold maxLen
  omega

/-- what is there, if the way goes there -/
def gv (t : List Th) (L : Nm → Nd) (n : Nm) : Option Nat := if goT t n = 0 then some (L n).b else none
theorem gv_yes {t : List Th} {L : Nm → Nd} {n : Nm} (h : goT t n = 0) : gv t L n = some (L n).b := if_pos h
theorem gv_no {t : List Th} {L : Nm → Nd} {n : Nm} (h : goT t n ≠ 0) : gv t L n = none := if_neg h

set_option maxRecDepth 100000 in
set_option maxHeartbeats 4000000 in
theorem follow_any (w : World) (N b0 c m : Nat) (t : List Th) (L : Nm → Nd) (A : Option Addr) (n : Nm) (hM : Mem w N t L) (hb : (L []).b = b0) (h : Txs w A n) (hn : Pat.IsNames n) (hm : n.length = m) :
    Calls Tryz.prog 80 #[.pointer (some ⟨b0, 0, none⟩), .slice A m c] w fun e w' => e = .returned (.tuple #[pv (gv t L n), .int .i64 (goT t n)]) ∧ w' = w := by
  subst hm
  have hl := h.len
  have H := Lib.hid h
  have HM := Lib.hid hM
  have HN := Lib.hid hn
  have HX := Lib.hid (goT_rest t n)
  clear h hM hn
  go_enter Tryz.func80, Tryz.ntmps80
  go_wp2
  go_loopw [6, 14] (fun x ix wr => ∃ (k : Nat) (d : Bool) (s : ByteArray), k ≤ n.length ∧ x = pv (some (L (n.take k)).b) ∧ ix = .int .i64 (k : Int) ∧ wr = w ∧ T t (n.take k) = some (d, s) ∧ goT t n = rest t n k d) (fun _ ix _ => n.length - (intOf ix).toNat)
  case atStart => exact ⟨0, true, ByteArray.empty, Nat.zero_le _, by rw [List.take_zero, hb]; rfl, rfl, rfl, by rw [List.take_zero, T_root], HX.out⟩
  case round =>
    obtain ⟨k, d, s, hk, rfl, rfl, rfl, hT, hR⟩ := hrel
    by_cases hlt : k < n.length
    · obtain ⟨b, o, rfl, _, hc0⟩ := H.out.at' k hlt
      have hs := right_len (HN.out.2 _ (List.getElem_mem hlt))
      have HD := Lib.hid (HM.out.nod _ _ _ hT)
      have h0 := HD.out.c0
      have h2 := HD.out.c2
      have HK := Lib.hid HD.out.map
      have HT := Lib.hid hT
      have HR := Lib.hid hR
      have HE := Lib.hid (show n.take (k + 1) = n.take k ++ [n[k]] from List.take_succ_eq_append_getElem hlt)
      clear hT hR
      unfold pv
      generalize n[k] = s0 at *
      generalize hx : L (n.take k) = x at *
      cases d with
      | false =>
        simp only [Bool.not_false] at h0
        have h6 := HR.out
        rw [rest_file hlt] at h6
        have HZ := Lib.hid (show (.tuple #[.pointer none, .int .i64 6] : Value) = .tuple #[pv (gv t L n), .int .i64 (goT t n)] by rw [gv_no (by omega), h6]; rfl)
        clear h6
        go_wp2
        refine bodyPost_ret (v := .tuple #[.pointer none, .int .i64 6]) ?_ rfl ⟨by rw [HZ.out], rfl⟩
        simp [results, Tryz.results80, go_sem]
      | true =>
        simp only [Bool.not_true] at h0
        have hlk := HD.out.look s0 hs
        unfold kb at hlk
        rw [← HE.out] at hlk
        cases hv : T t (n.take (k + 1)) with
        | none =>
          rw [hv] at hlk
          simp only [Option.map_none, pv] at hlk
          have h4 := HR.out
          rw [rest_none hlt hv] at h4
          have HZ := Lib.hid (show (.tuple #[.pointer none, .int .i64 4] : Value) = .tuple #[pv (gv t L n), .int .i64 (goT t n)] by rw [gv_no (by omega), h4]; rfl)
          clear hv h4
          go_wp2
          refine bodyPost_ret (v := .tuple #[.pointer none, .int .i64 4]) ?_ rfl ⟨by rw [HZ.out], rfl⟩
          simp [results, Tryz.results80, go_sem]
        | some v =>
          rw [hv] at hlk
          simp only [Option.map_some, pv] at hlk
          have HV := Lib.hid hv
          have h4 := HR.out
          rw [rest_some hlt hv] at h4
          have H4 := Lib.hid h4
          clear hv h4
          go_wp2
          refine ⟨⟨k + 1, v.1, v.2, by omega, rfl, by go_num, by first | rfl | trivial, HV.out, H4.out⟩, by simp [intOf]; omega⟩
    · obtain rfl : k = n.length := by omega
      rw [List.take_length] at hT
      rw [rest_end] at hR
      have HZ := Lib.hid (show (.tuple #[pv (some (L n).b), .int .i64 0] : Value) = .tuple #[pv (gv t L n), .int .i64 (goT t n)] by rw [gv_yes hR, hR])
      rw [List.take_length]
      clear hR
      generalize pv (some (L n).b) = z at *
      go_wp2
      refine bodyPost_ret (v := .tuple #[z, .int .i64 0]) ?_ rfl ⟨by rw [HZ.out], rfl⟩
      simp [results, Tryz.results80, go_sem]
end Trk
end Go.Proofs.YtkhkcfbacnkcnaaGreatDoor
/- What the program finds at a path. -/
namespace Go.Proofs.YtkhkcfbacnkcnaaGreatDoor
open Go.RowKit Go.MapKept
namespace Trk
open Tre (Nm Th fi isDirAt dirT goT goF setT dropT fileT)
open Pat (Txs)

theorem rest_zero {t : List Th} {n : Nm} : ∀ (f k : Nat) (v : Bool × ByteArray), n.length - k = f → k ≤ n.length → T t (n.take k) = some v → rest t n k v.1 = 0 → ∃ u, T t n = some u
  | 0, k, v, hf, hk, hv, _ => by
    obtain rfl : k = n.length := by omega
    rw [List.take_length] at hv
    exact ⟨v, hv⟩
  | f + 1, k, (d, s), hf, hk, hv, h0 => by
    have hlt : k < n.length := by omega
    cases d with
    | false => rw [rest_file hlt] at h0; omega
    | true =>
      cases hu : T t (n.take (k + 1)) with
      | none => rw [rest_none hlt hu] at h0; omega
      | some u =>
        rw [rest_some hlt hu] at h0
        exact rest_zero f (k + 1) u (by omega) (by omega) hu h0
theorem goT_some {t : List Th} {n : Nm} (h : goT t n = 0) : ∃ u, T t n = some u := by
  rw [goT_rest] at h
  exact rest_zero n.length 0 (true, ByteArray.empty) (by omega) (by omega) (by rw [List.take_zero, T_root]) h
theorem rest_bound {t : List Th} {n : Nm} : ∀ (f k : Nat) (d : Bool), n.length - k = f → k ≤ n.length → rest t n k d = 0 ∨ rest t n k d = 4 ∨ rest t n k d = 6
  | 0, k, d, hf, hk => by
    obtain rfl : k = n.length := by omega
    exact .inl rest_end
  | f + 1, k, d, hf, hk => by
    have hlt : k < n.length := by omega
    cases d with
    | false => exact .inr (.inr (rest_file hlt))
    | true =>
      cases hu : T t (n.take (k + 1)) with
      | none => exact .inr (.inl (rest_none hlt hu))
      | some u =>
        rw [rest_some hlt hu]
        exact rest_bound f (k + 1) u.1 (by omega) (by omega)
theorem goT_bound (t : List Th) (n : Nm) : goT t n = 0 ∨ goT t n = 4 ∨ goT t n = 6 := by
  rw [goT_rest]
  exact rest_bound n.length 0 true (by omega) (by omega)
theorem dirT_T {t : List Th} {n : Nm} {v : Bool × ByteArray} (h : T t n = some v) : dirT t n = v.1 := by
  unfold Tre.dirT
  by_cases h0 : n = []
  · rw [if_pos h0]
    rw [h0, T_root] at h
    injection h with h
    rw [← h]
  · rw [if_neg h0]
    cases hf : fi t n with
    | none => rw [T_none h0 hf] at h; cases h
    | some i =>
      obtain ⟨hi, h2⟩ := T_fi h0 hf
      rw [h2] at h
      injection h with h
      simp only
      unfold Tre.isDirAt
      rw [List.getElem?_eq_getElem hi, ← h]
theorem fi_of_T {t : List Th} {n : Nm} (h0 : n ≠ []) {v : Bool × ByteArray} (h : T t n = some v) : ∃ i, fi t n = some i := by
  cases hf : fi t n with
  | none => rw [T_none h0 hf] at h; cases h
  | some i => exact ⟨i, rfl⟩
theorem spl_is {s : ByteArray} {l : List ByteArray} (h : Pat.spl s = some l) : Pat.IsNames l := by
  unfold Pat.spl at h
  split at h
  · cases h
  · split at h
    · split at h
      · injection h with h
        subst h
        exact ⟨by simp, fun n hn => by simp at hn⟩
      · split at h
        · rename_i hi
          injection h with h
          subst h
          exact hi
        · cases h
    · cases h

/-- the error of going to a path; what is there -/
def ge (t : List Th) (p : ByteArray) : Int := match Pat.spl p with | none => 3 | some n => goT t n
def gn (t : List Th) (L : Nm → Nd) (p : ByteArray) : Option Nat := match Pat.spl p with | none => none | some n => gv t L n

set_option maxRecDepth 100000 in
set_option maxHeartbeats 4000000 in
theorem goTo_any (w : World) (N b0 : Nat) (t : List Th) (L : Nm → Nd) (p : ByteArray) (hM : Mem w N t L) (hb : (L []).b = b0) (hp : p.size < 4294967281) :
    Calls Tryz.prog 49 #[.pointer (some ⟨b0, 0, none⟩), .string p] w fun e w' => e = .returned (.tuple #[pv (gn t L p), .int .i64 (ge t p)]) ∧ Below w.heap.size w w' := by
  have HM := Lib.hid hM
  clear hM
  go_enter Tryz.func49, Tryz.ntmps49
  go_wp2_with fail
  refine (Pat.split_any w p hp).mono ?_
  rintro e w1 ⟨hb1, h1⟩
  have HB1 := Lib.hid hb1
  clear hb1
  rcases h1 with ⟨l, A, c, hs, rfl, hc, ht⟩ | ⟨hs, rfl⟩
  · have HS := Lib.hid hs
    have HZ := Lib.hid (show (.tuple #[pv (gv t L l), .int .i64 (goT t l)] : Value) = .tuple #[pv (gn t L p), .int .i64 (ge t p)] by unfold gn ge; rw [hs])
    have HF := Lib.hid (follow_any w1 N b0 c l.length t L A l (HM.out.keep HB1.out) hb ht (spl_is hs) rfl)
    clear hs ht hc
    go_wp2_with fail
    refine HF.out.mono ?_
    rintro e w' ⟨rfl, rfl⟩
    generalize pv (gv t L l) = z at *
    generalize goT t l = g at *
    go_wp2
    refine bodyPost_ret (v := .tuple #[z, .int .i64 g]) ?_ rfl ⟨by rw [HZ.out], HB1.out⟩
    simp [results, Tryz.results49, go_sem]
  · have HZ := Lib.hid (show (.tuple #[.pointer none, .int .i64 3] : Value) = .tuple #[pv (gn t L p), .int .i64 (ge t p)] by unfold gn ge; rw [hs]; rfl)
    clear hs
    go_wp2
    refine bodyPost_ret (v := .tuple #[.pointer none, .int .i64 3]) ?_ rfl ⟨by rw [HZ.out], HB1.out⟩
    simp [results, Tryz.results49, go_sem]
end Trk
end Go.Proofs.YtkhkcfbacnkcnaaGreatDoor
/- The program's file at a path, directory at a path; a new tree; a text's clone. -/
namespace Go.Proofs.YtkhkcfbacnkcnaaGreatDoor
open Go.RowKit Go.MapKept
namespace Trk
open Tre (Nm Th fi isDirAt dirT goT goF setT dropT fileT)
open Pat (Txs)

/-- a file that is there -/
structure IsFile (t : List Th) (p : ByteArray) (n : Nm) (i : Nat) (s : ByteArray) : Prop where
  spl : Pat.spl p = some n
  ne : n ≠ []
  fi : fi t n = some i
  at' : T t n = some (false, s)
  go : goT t n = 0
  file : fileT t p = (((i : Nat) : Int), 0)
theorem ge_no {t : List Th} {L : Nm → Nd} {p : ByteArray} (h : ge t p ≠ 0) : gn t L p = none ∧ (fileT t p).2 = ge t p := by
  unfold gn
  unfold ge at *
  cases hs : Pat.spl p with
  | none => exact ⟨rfl, by rw [Tre.fileT_none hs]⟩
  | some n =>
    rw [hs] at h
    exact ⟨gv_no h, by rw [Tre.fileT_go hs h]⟩
theorem ge_yes {t : List Th} {L : Nm → Nd} {p : ByteArray} (h : ge t p = 0) : ∃ n v, Pat.spl p = some n ∧ goT t n = 0 ∧ T t n = some v ∧ gn t L p = some (L n).b := by
  unfold gn
  unfold ge at h
  cases hs : Pat.spl p with
  | none => rw [hs] at h; simp at h
  | some n =>
    rw [hs] at h
    obtain ⟨v, hv⟩ := goT_some h
    exact ⟨n, v, rfl, h, hv, gv_yes h⟩
theorem is_file {t : List Th} {p : ByteArray} {n : Nm} {s : ByteArray} (hs : Pat.spl p = some n) (hg : goT t n = 0) (hv : T t n = some (false, s)) : ∃ i, IsFile t p n i s := by
  have h0 : n ≠ [] := fun e => by rw [e, T_root] at hv; cases hv
  obtain ⟨i, hi⟩ := fi_of_T h0 hv
  refine ⟨i, hs, h0, hi, hv, hg, ?_⟩
  unfold Tre.fileT
  rw [hs]
  simp only [hg, ne_eq, not_true, if_false, dirT_T hv, Bool.false_eq_true]
  unfold Tre.fv
  rw [hi]
theorem no_file {t : List Th} {p : ByteArray} {n : Nm} {s : ByteArray} (hs : Pat.spl p = some n) (hg : goT t n = 0) (hv : T t n = some (true, s)) : fileT t p = (-1, 7) := Tre.fileT_dir hs hg (dirT_T hv)

/-- how a file is answered -/
def FileR (t : List Th) (L : Nm → Nd) (p : ByteArray) (e : Ending) : Prop :=
  ((fileT t p).2 ≠ 0 ∧ e = .returned (.tuple #[.pointer none, .int .i64 (fileT t p).2])) ∨ ∃ n i s, IsFile t p n i s ∧ e = .returned (.tuple #[.pointer (some ⟨(L n).b, 0, none⟩), .int .i64 0])

set_option maxRecDepth 100000 in
set_option maxHeartbeats 4000000 in
theorem fileAt_any (w : World) (N b0 : Nat) (t : List Th) (L : Nm → Nd) (p : ByteArray) (hM : Mem w N t L) (hb : (L []).b = b0) (hp : p.size < 4294967281) :
    Calls Tryz.prog 65 #[.pointer (some ⟨b0, 0, none⟩), .string p] w fun e w' => FileR t L p e ∧ Below w.heap.size w w' := by
  have HM := Lib.hid hM
  clear hM
  go_enter Tryz.func65, Tryz.ntmps65
  go_wp2_with fail
  refine (goTo_any w N b0 t L p HM.out hb hp).mono ?_
  rintro e w1 ⟨rfl, hb1⟩
  have HB1 := Lib.hid hb1
  have HM1 := Lib.hid (HM.out.keep hb1)
  clear hb1
  by_cases hg : ge t p = 0
  · obtain ⟨n, ⟨d, s⟩, hs, hn, hv, hx⟩ := ge_yes (L := L) hg
    rw [hx, hg]
    have HD := Lib.hid (HM1.out.nod _ _ _ hv)
    have h0 := HD.out.c0
    unfold pv
    cases d with
    | true =>
      simp only [Bool.not_true] at h0
      have HR := Lib.hid (show FileR t L p (.returned (.tuple #[.pointer none, .int .i64 7])) from .inl (by rw [no_file hs hn hv]; exact ⟨by simp, rfl⟩))
      clear hs hn hv hx hg
      generalize L n = x at *
      go_wp2
      refine bodyPost_ret (v := .tuple #[.pointer none, .int .i64 7]) ?_ rfl ⟨HR.out, HB1.out⟩
      simp [results, Tryz.results65, go_sem]
    | false =>
      simp only [Bool.not_false] at h0
      have HR := Lib.hid (show FileR t L p (.returned (.tuple #[.pointer (some ⟨(L n).b, 0, none⟩), .int .i64 0])) from .inr (by obtain ⟨i, hi⟩ := is_file hs hn hv; exact ⟨n, i, s, hi, rfl⟩))
      clear hs hn hv hx hg
      generalize L n = x at *
      go_wp2
      refine bodyPost_ret (v := .tuple #[.pointer (some ⟨x.b, 0, none⟩), .int .i64 0]) ?_ rfl ⟨HR.out, HB1.out⟩
      simp [results, Tryz.results65, go_sem]
  · obtain ⟨hx, he⟩ := ge_no (L := L) hg
    have HR := Lib.hid (show FileR t L p (.returned (.tuple #[.pointer none, .int .i64 (ge t p)])) from .inl ⟨by rw [he]; exact hg, by rw [he]⟩)
    rw [hx]
    unfold pv
    clear hx he
    generalize ge t p = g at *
    go_wp2
    refine bodyPost_ret (v := .tuple #[.pointer none, .int .i64 g]) ?_ rfl ⟨HR.out, HB1.out⟩
    simp [results, Tryz.results65, go_sem]

/-- a directory that is there -/
structure IsDir (t : List Th) (p : ByteArray) (n : Nm) (s : ByteArray) : Prop where
  spl : Pat.spl p = some n
  at' : T t n = some (true, s)
  go : goT t n = 0
  dir : dirT t n = true
/-- the error of a directory -/
def dirE (t : List Th) (p : ByteArray) : Int := match Pat.spl p with | none => 3 | some n => if goT t n ≠ 0 then goT t n else if dirT t n = false then 6 else 0
def DirR (t : List Th) (L : Nm → Nd) (p : ByteArray) (e : Ending) : Prop :=
  (dirE t p ≠ 0 ∧ e = .returned (.tuple #[.pointer none, .int .i64 (dirE t p)])) ∨ ∃ n s, IsDir t p n s ∧ e = .returned (.tuple #[.pointer (some ⟨(L n).b, 0, none⟩), .int .i64 0])
theorem ge_dir {t : List Th} {p : ByteArray} (h : ge t p ≠ 0) : dirE t p = ge t p := by
  unfold ge at *
  unfold dirE
  cases hs : Pat.spl p with
  | none => rfl
  | some n =>
    rw [hs] at h
    exact if_pos h

set_option maxRecDepth 100000 in
set_option maxHeartbeats 4000000 in
theorem dirAt_any (w : World) (N b0 : Nat) (t : List Th) (L : Nm → Nd) (p : ByteArray) (hM : Mem w N t L) (hb : (L []).b = b0) (hp : p.size < 4294967281) :
    Calls Tryz.prog 67 #[.pointer (some ⟨b0, 0, none⟩), .string p] w fun e w' => DirR t L p e ∧ Below w.heap.size w w' := by
  have HM := Lib.hid hM
  clear hM
  go_enter Tryz.func67, Tryz.ntmps67
  go_wp2_with fail
  refine (goTo_any w N b0 t L p HM.out hb hp).mono ?_
  rintro e w1 ⟨rfl, hb1⟩
  have HB1 := Lib.hid hb1
  have HM1 := Lib.hid (HM.out.keep hb1)
  clear hb1
  by_cases hg : ge t p = 0
  · obtain ⟨n, ⟨d, s⟩, hs, hn, hv, hx⟩ := ge_yes (L := L) hg
    rw [hx, hg]
    have HD := Lib.hid (HM1.out.nod _ _ _ hv)
    have h0 := HD.out.c0
    unfold pv
    cases d with
    | false =>
      simp only [Bool.not_false] at h0
      have HR := Lib.hid (show DirR t L p (.returned (.tuple #[.pointer none, .int .i64 6])) from .inl (by
        have : dirE t p = 6 := by unfold dirE; rw [hs]; simp only [hn, ne_eq, not_true, if_false, dirT_T hv, if_true]
        rw [this]; exact ⟨by simp, rfl⟩))
      clear hs hn hv hx hg
      generalize L n = x at *
      go_wp2
      refine bodyPost_ret (v := .tuple #[.pointer none, .int .i64 6]) ?_ rfl ⟨HR.out, HB1.out⟩
      simp [results, Tryz.results67, go_sem]
    | true =>
      simp only [Bool.not_true] at h0
      have HR := Lib.hid (show DirR t L p (.returned (.tuple #[.pointer (some ⟨(L n).b, 0, none⟩), .int .i64 0])) from .inr ⟨n, s, ⟨hs, hv, hn, dirT_T hv⟩, rfl⟩)
      clear hs hn hv hx hg
      generalize L n = x at *
      go_wp2
      refine bodyPost_ret (v := .tuple #[.pointer (some ⟨x.b, 0, none⟩), .int .i64 0]) ?_ rfl ⟨HR.out, HB1.out⟩
      simp [results, Tryz.results67, go_sem]
  · obtain ⟨hx, _⟩ := ge_no (L := L) hg
    have he := ge_dir hg
    have HR := Lib.hid (show DirR t L p (.returned (.tuple #[.pointer none, .int .i64 (ge t p)])) from .inl ⟨by rw [he]; exact hg, by rw [he]⟩)
    rw [hx]
    unfold pv
    clear hx he
    generalize ge t p = g at *
    go_wp2
    refine bodyPost_ret (v := .tuple #[.pointer none, .int .i64 g]) ?_ rfl ⟨HR.out, HB1.out⟩
    simp [results, Tryz.results67, go_sem]

theorem clone_any (w : World) (s : ByteArray) (hs : s.size ≤ 1000000) : Calls Tryz.prog 91 #[.string s] w fun e w' => e = .returned (.string s) ∧ Below w.heap.size w w' := by
  go_enter Tryz.func91, Tryz.ntmps91
  go_wp2_with fail
  refine (Any.stringslite_Clone Tryz.cloneA s w (by omega)).mono ?_
  rintro e w' ⟨rfl, hb⟩
  have HB := Lib.hid hb
  clear hb
  go_wp2
  go_ret
  exact ⟨rfl, HB.out⟩

/-- an empty tree's root -/
def L0 (b : Nat) : Nm → Nd := fun _ => ⟨b, none, 0, none⟩
theorem T_nil (n : Nm) : T [] n = if n = [] then some (true, ByteArray.empty) else none := rfl
theorem mem_new {w : World} {b : Nat} {ty : TypeId} (h : w.heap[b]? = some (.cells #[.bool false, .slice none 0 0, .map none] ty (0, 0))) : Mem w 0 [] (L0 b) := by
  have hT : ∀ {p : Nm} {v}, T [] p = some v → p = [] ∧ v = (true, ByteArray.empty) := fun {p v} e => by
    rw [T_nil] at e
    split at e
    · rename_i h0
      injection e with e
      exact ⟨h0, e.symm⟩
    · cases e
  refine ⟨fun p d s e => ?_, fun p v e => by simp [own, L0], fun p q v u ep eq hne => absurd ((hT ep).1.trans (hT eq).1.symm) hne⟩
  obtain ⟨rfl, e2⟩ := hT e
  injection e2 with e2 e3
  subst e2 e3
  exact ⟨⟨ty, h⟩, ⟨rfl, .inl ⟨rfl, rfl⟩⟩, fun x => by unfold kb; rw [T_nil]; simp⟩
theorem wf_nil : Wf [] := by
  refine ⟨List.nodup_nil, fun x h => by simp at h, fun p x v h => ?_, fun p s h => ?_, fun x h => by simp at h⟩
  · rw [T_nil] at h
    simp at h
  · rw [T_nil] at h
    split at h
    · simp at h
      exact h.symm
    · cases h
set_option maxRecDepth 100000 in
theorem new_any (w : World) : Calls Tryz.prog 9 #[] w fun e w' => e = .returned (.pointer (some ⟨w.heap.size, 0, none⟩)) ∧ Mem w' 0 [] (L0 w.heap.size) ∧ Below w.heap.size w w' ∧ w'.heap.size = w.heap.size + 1 := by
  go_enter Tryz.func9, Tryz.ntmps9
  go_wp2
  go_ret
  exact ⟨rfl, mem_new (heap_alloc_new w _), (Below.refl _ _).alloc (Nat.le_refl _) _, by simp⟩
end Trk
end Go.Proofs.YtkhkcfbacnkcnaaGreatDoor
/- The program's put: a directory gets one name more. -/
namespace Go.Proofs.YtkhkcfbacnkcnaaGreatDoor
open Go.RowKit Go.MapKept
namespace Trk
open Tre (Nm Th fi isDirAt dirT goT goF setT dropT fileT)
open Pat (Txs)

/-- how a name more is left -/
def PutR (w : World) (N : Nat) (x : Nd) (f : ByteArray → Option Nat) (d : Bool) (s : ByteArray) (nm : ByteArray) (nb : Nat) (w' : World) : Prop :=
  ∃ g, (x.m = some g ∨ g = w.heap.size) ∧ Nod w' (N + 1) ⟨x.b, x.A, x.c, some g⟩ (fun z => if z = nm then some nb else f z) d s ∧ Chg (· ∈ own x) w w'

set_option maxRecDepth 100000 in
set_option maxHeartbeats 4000000 in
theorem tput_any (w : World) (N : Nat) (x : Nd) (f : ByteArray → Option Nat) (d : Bool) (s nm : ByteArray) (nb : Nat) (h : Nod w N x f d s) (h1 : (own x).Nodup) (hs : nm.size ≤ maxLen) (hN : N ≤ 1000000) :
    Calls Tryz.prog 82 #[.pointer (some ⟨x.b, 0, none⟩), .string nm, .pointer (some ⟨nb, 0, none⟩)] w fun e w' => e = .returned (.tuple #[]) ∧ PutR w N x f d s nm nb w' := by
  have H := Lib.hid h
  have h2 := h.c2
  have hfr := h.fr 2
  have hnil : ∀ W r, (binOp .eql 74 (.map r) (.map none)).run Tryz.prog W = .ok (.bool r.isNone) W := fun W r => run_eql_map_nil W _ _ _ r Tryz.underlying74
  have hmk : ∀ W, (Instr.makeMap 74 none).run Tryz.prog W = .ok (.map (some W.heap.size)) (W.alloc (.map #[] 0)) := fun W => by
    exact run_makeMap _ W
  have hlt := h.blt
  clear h
  cases hm : x.m with
  | none =>
    rw [hm] at h2
    have hk := H.out.map
    rw [hm] at hk
    have hsz0 : (w.setCell ⟨x.b, 2, none⟩ (.map (some w.heap.size))).heap.size = w.heap.size := by simp [World.setCell]
    have hA0 : Ask ((w.setCell ⟨x.b, 2, none⟩ (.map (some w.heap.size))).alloc (.map #[] 0)) w.heap.size N f (.map []) := by
      have := ask_made (w.setCell ⟨x.b, 2, none⟩ (.map (some w.heap.size)))
      rw [hsz0] at this
      exact ⟨this.own.mono (Nat.zero_le _), fun z hz => by rw [this.ask z hz, hk z], fun z _ => this.non z rfl⟩
    obtain ⟨w', D', hrun, hA, hg⟩ := hA0.store nm hs nb hN
    have HP := Lib.hid (show PutR w N x f d s nm nb w' from by
      obtain ⟨ty, hbox⟩ := H.out.box
      have hw1 := heap_setCell_same _ _ 2 _ _ (.map (some w.heap.size)) hbox
      have hw2 := (Below.heap_alloc _ (.map #[] 0) x.b (by omega)).trans hw1
      have hsz : ((w.setCell ⟨x.b, 2, none⟩ (.map (some w.heap.size))).alloc (.map #[] 0)).heap.size = w.heap.size + 1 := by simp [World.setCell]
      have hoth : ∀ k, k < w.heap.size → k ≠ x.b → w'.heap[k]? = w.heap[k]? := fun k hk' hne =>
        (hg.block k (by omega) (fun e => by injection e with e; omega)).trans ((Below.heap_alloc _ _ k (by omega)).trans (Below.heap_setCell _ _ _ k hne))
      refine ⟨w.heap.size, .inr rfl, ⟨⟨ty, ?_⟩, ?_, ⟨D', hA⟩⟩, ⟨hg.os, hg.tape, hg.output, by have := hg.size; omega, fun k hk' hne => hoth k hk' (fun e => hne (by simp [own, e]))⟩⟩
      · exact (hg.block x.b (by omega) (fun e => by injection e with e; omega)).trans hw2
      · rcases H.out.row with ⟨r1, r2⟩
        refine ⟨r1, ?_⟩
        rcases r2 with r0 | ⟨q, cap, cur, e, hB, hh, hr⟩
        · exact .inl r0
        · have hA' : x.A = some ⟨q, 0, none⟩ := by injection e
          have hq : q ≠ x.b := fun e' => by
            rw [own, hA', e'] at h1
            simp at h1
          exact .inr ⟨q, cap, cur, e, hB, (hoth q (Array.getElem?_eq_some_iff.1 hh).1 hq).trans hh, hr⟩)
    clear hA0 hA hg hk
    go_enter Tryz.func82, Tryz.ntmps82
    go_wp2
    go_end0
    exact ⟨rfl, HP.out⟩
  | some g =>
    rw [hm] at h2
    have hk := H.out.map
    rw [hm] at hk
    obtain ⟨D, hD⟩ := hk
    obtain ⟨w', D', hrun, hA, hg⟩ := hD.store nm hs nb hN
    have HP := Lib.hid (show PutR w N x f d s nm nb w' from by
      obtain ⟨ty, hbox⟩ := H.out.box
      have hgx : x.b ≠ g := fun e => by rw [own, hm, e] at h1; simp at h1
      refine ⟨g, .inl hm, ⟨⟨ty, ?_⟩, ?_, ⟨D', hA⟩⟩, Chg.grown hg (by simp [own, hm])⟩
      · rw [← hm]
        exact (hg.block x.b hlt (fun e => hgx (by injection e))).trans hbox
      · refine H.out.row.kept hg ?_
        cases hA : x.A with
        | none => exact .inl rfl
        | some a =>
          refine .inr (fun e => ?_)
          have : a.block = g := by simpa [Value.ownBlock] using e
          rw [own, hm, hA] at h1
          simp [this] at h1)
    clear hD hA hg
    go_enter Tryz.func82, Tryz.ntmps82
    go_wp2
    go_end0
    exact ⟨rfl, HP.out⟩
end Trk
end Go.Proofs.YtkhkcfbacnkcnaaGreatDoor
/- The program's put at a path; a new file, a new directory. -/
namespace Go.Proofs.YtkhkcfbacnkcnaaGreatDoor
open Go.RowKit Go.MapKept
namespace Trk
open Tre (Nm Th fi isDirAt dirT goT goF setT dropT fileT addT)
open Pat (Txs)

theorem app_ne {p q : Nm} {x y : ByteArray} (h : q ≠ p) : q ++ [x] ≠ p ++ [y] := fun e => h (List.append_inj' e rfl).1
theorem app_inj {p : Nm} {x y : ByteArray} (h : p ++ [x] = p ++ [y]) : x = y := by
  have := (List.append_inj' h rfl).2
  injection this
theorem app_self {p : Nm} {x : ByteArray} : p ++ [x] ≠ p := fun e => by
  have := congrArg List.length e
  simp at this
/-- where the things lie, one more -/
def La (L : Nm → Nd) (p : Nm) (nm : ByteArray) (nb g : Nat) (q : Nm) : Nd := if q = p ++ [nm] then ⟨nb, none, 0, none⟩ else if q = p then ⟨(L p).b, (L p).A, (L p).c, some g⟩ else L q
section
variable {L : Nm → Nd} {p : Nm} {nm : ByteArray} {nb g : Nat}
theorem La_new : La L p nm nb g (p ++ [nm]) = ⟨nb, none, 0, none⟩ := if_pos rfl
theorem La_up : La L p nm nb g p = ⟨(L p).b, (L p).A, (L p).c, some g⟩ := by
  unfold La
  rw [if_neg (fun e => app_self e.symm), if_pos rfl]
theorem La_other {q : Nm} (h : q ≠ p ++ [nm]) (h' : q ≠ p) : La L p nm nb g q = L q := by
  unfold La
  rw [if_neg h, if_neg h']
theorem La_b {q : Nm} (h : q ≠ p ++ [nm]) : (La L p nm nb g q).b = (L q).b := by
  unfold La
  rw [if_neg h]
  split
  · rename_i e
    rw [e]
  · rfl
end
theorem own_mem {x : Nd} {i : Nat} : i ∈ own x ↔ i = x.b ∨ x.m = some i ∨ x.A.map (·.block) = some i := by
  simp [own]
theorem Mem.add {w w' : World} {N : Nat} {t : List Th} {L : Nm → Nd} (h : Mem w N t L) (hW : Wf t) {p : Nm} {nm : ByteArray} {s : ByteArray} {nb : Nat} {d : Bool} {ty : TypeId} (hp : T t p = some (true, s)) (hn : T t (p ++ [nm]) = none)
    (hnb : w.heap[nb]? = some (.cells #[.bool (!d), .slice none 0 0, .map none] ty (0, 0))) (hF : ¬ Fp t L nb) (hr : PutR w N (L p) (kb t L p) true s nm nb w') :
    ∃ g, (Fp t L g ∨ g = w.heap.size) ∧ Mem w' (N + 1) (t ++ [(p ++ [nm], d, ByteArray.empty)]) (La L p nm nb g) ∧ Chg (Fp t L) w w' := by
  obtain ⟨g, hg, hN, hc⟩ := hr
  have hlt := (Array.getElem?_eq_some_iff.1 hnb).1
  have hFp : ∀ i ∈ own (L p), Fp t L i := fun i hi => ⟨p, _, hp, hi⟩
  have hgF : Fp t L g ∨ g = w.heap.size := by
    rcases hg with hg | hg
    · exact .inl (hFp g (own_mem.2 (.inr (.inl hg))))
    · exact .inr hg
  refine ⟨g, hgF, ?_, ⟨hc.os, hc.tape, hc.output, hc.size, fun k hk hn => hc.block k hk (fun e => hn (hFp k e))⟩⟩
  obtain ⟨hne, hfi⟩ := T_no hn
  have hT : ∀ q, T (t ++ [(p ++ [nm], d, ByteArray.empty)]) q = if q = p ++ [nm] then some (d, ByteArray.empty) else T t q := T_app (x := (p ++ [nm], d, ByteArray.empty)) hne hfi
  have hkid : ∀ x, T t (p ++ [nm] ++ [x]) = none := fun x => by
    cases hv : T t (p ++ [nm] ++ [x]) with
    | none => rfl
    | some v =>
      obtain ⟨s', hs'⟩ := hW.up _ _ _ hv
      rw [hn] at hs'
      cases hs'
  have hown : ∀ i, i ∈ own (La L p nm nb g p) → i ∈ own (L p) ∨ i = w.heap.size := fun i hi => by
    rw [La_up, own_mem] at hi
    simp only [Option.some.injEq] at hi
    rcases hi with hi | hi | hi
    · exact .inl (own_mem.2 (.inl hi))
    · rcases hg with hg | hg
      · exact .inl (own_mem.2 (.inr (.inl (hi ▸ hg))))
      · exact .inr (by omega)
    · exact .inl (own_mem.2 (.inr (.inr hi)))
  refine h.step (fun q => q = p ++ [nm] ∨ q = p) (Nat.le_succ N) (fun q hq => ?_) (fun q hq => ?_) (fun q v hv hq i hi => ?_) (fun q x v hv hq => ?_) (fun q d' s' hq hv => ?_) (fun q v hq hv => ?_) (fun q r v u hq hv hu hne' i hi => ?_)
  · rw [hT, if_neg (fun e => hq (.inl e))]
  · exact La_other (fun e => hq (.inl e)) (fun e => hq (.inr e))
  · exact hc.block i (h.lt ⟨q, v, hv, hi⟩) (fun e => h.apart q p v _ hv hp (fun e => hq (.inr e)) i hi e)
  · unfold kb
    rw [hT, if_neg (app_ne (fun e => hq (.inr e))), La_b (app_ne (fun e => hq (.inr e)))]
  · rcases hq with rfl | rfl
    · rw [hT, if_pos rfl] at hv
      injection hv with hv
      injection hv with h1 h2
      subst h1 h2
      rw [La_new]
      refine ⟨⟨ty, (hc.block nb hlt (fun e => hF (hFp _ e))).trans hnb⟩, ⟨rfl, .inl ⟨rfl, rfl⟩⟩, fun x => ?_⟩
      unfold kb
      rw [hT, if_neg app_self, hkid]
      rfl
    · rw [hT, if_neg (fun e => app_self e.symm), hp] at hv
      injection hv with hv
      injection hv with h1 h2
      subst h1 h2
      rw [La_up]
      refine ⟨hN.box, hN.row, hN.map.congr fun x => ?_⟩
      unfold kb
      rw [hT]
      by_cases e : x = nm
      · subst e
        rw [if_pos rfl, if_pos rfl, La_new]
        rfl
      · rw [if_neg e, if_neg (fun e' => e (app_inj e')), La_b (fun e' => e (app_inj e'))]
  · rcases hq with rfl | rfl
    · rw [La_new]
      simp [own]
    · rw [La_up]
      have ho := h.one _ _ hp
      rcases hg with hg | hg
      · have : (⟨(L q).b, (L q).A, (L q).c, some g⟩ : Nd) = L q := by rw [← hg]
        rw [this]
        exact ho
      · have hb : (L q).b < w.heap.size := h.lt ⟨q, _, hp, own_mem.2 (.inl rfl)⟩
        have hA : ∀ a, (L q).A = some a → a.block < w.heap.size := fun a e => h.lt ⟨q, _, hp, own_mem.2 (.inr (.inr (by rw [e]; rfl)))⟩
        unfold own at ho ⊢
        cases hA' : (L q).A with
        | none => simp; omega
        | some a =>
          have := hA a hA'
          rw [hA'] at ho
          simp at ho ⊢
          exact ⟨⟨by omega, ho.1.2⟩, by omega⟩
  · rcases hq with rfl | rfl
    · rw [La_new] at hi
      have hi : i = nb := by simpa [own] using hi
      subst hi
      rw [hT, if_neg hne'] at hu
      by_cases e : r = p
      · subst e
        intro hi'
        rcases hown _ hi' with h1 | h1
        · exact hF (hFp _ h1)
        · omega
      · rw [La_other hne' e]
        exact fun h1 => hF ⟨r, u, hu, h1⟩
    · intro hi'
      by_cases e : r = q ++ [nm]
      · subst e
        rw [La_new] at hi'
        have hi' : i = nb := by simpa [own] using hi'
        subst hi'
        rcases hown _ hi with h1 | h1
        · exact hF (hFp _ h1)
        · omega
      · rw [hT, if_neg e] at hu
        rw [La_other e hne'] at hi'
        rcases hown _ hi with h1 | h1
        · exact h.apart q r _ u hp hu (fun e => hne' e.symm) i h1 hi'
        · have := h.lt ⟨r, u, hu, hi'⟩
          omega
theorem Mem.mono {w : World} {N N' : Nat} {t : List Th} {L : Nm → Nd} (h : Mem w N t L) (hN : N ≤ N') : Mem w N' t L :=
  ⟨fun p d s e => ⟨(h.nod p d s e).box, (h.nod p d s e).row, (h.nod p d s e).map.mono hN⟩, h.one, h.apart⟩
end Trk
end Go.Proofs.YtkhkcfbacnkcnaaGreatDoor
