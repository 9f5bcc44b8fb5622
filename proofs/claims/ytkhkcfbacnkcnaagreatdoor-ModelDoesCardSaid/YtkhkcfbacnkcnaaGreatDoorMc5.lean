/- Texts laid together: TreRmdir, TreTrunc, TreWrite, TrkWr, TrkRead, TrkDrop, TrkRm, TrkRmdir, TrkWf, TrkOrder, TrkSum. -/
import Derived.Test.YtkhkcfbacnkcnaaGreatDoorMc4
import Derived.Test.YtkhkcfbacnkcnaaGreatDoorMc2
import Derived.Test.YtkhkcfbacnkcnaaGreatDoorMc1
import Derived.LaidEqlPtr
import Derived.Sort.Walk0
import Derived.Sort.KeysCollected
import Derived.Test.YtkhkcfbacnkcnaaGreatDoorMc3
/- A directory fewer. -/
namespace Go.Proofs.YtkhkcfbacnkcnaaGreatDoor
open Go.RowKit Go.MapKept
namespace Tre
open Pat (Txs)

/-- a directory fewer; the error -/
def rmdirT (t : List Th) (p : ByteArray) : List Th × Int :=
  match Pat.spl p with
  | none => (t, 3)
  | some n => if goT t n ≠ 0 then (t, goT t n) else if dirT t n = false then (t, 6) else if n = [] then (t, 1) else if 0 < (kidT t n).length then (t, 8) else (dropT t (fv t n).toNat, 0)

/-- a box, the answer's block, and a thing fewer -/
theorem end_tr {w w2 w3 : World} {src l' : List Tg} {A A' : Option Addr} {c' b1 : Nat} {t : List Th} (hw : Ths w A src) (hb : Below w.heap.size w w2) (hlt : b1 < w2.heap.size) (hge : w.heap.size ≤ b1)
    (ht3 : Ths w3 A' l') (hl3 : ths l' = t) (hA3 : A' = none → c' = 0) (hc3 : l'.length ≤ c') (hb3 : Below w2.heap.size w2 w3) (hbA3 : ∀ a, A' = some a → w2.heap.size ≤ a.block) (hsrc : ∀ g ∈ l', ∃ x ∈ src, g.1 = x.1 ∧ g.2.1 = x.2.1 ∧ g.2.2.1 = x.2.2.1) (z : Int) :
    TrR w A src (t, z) (.returned (.tuple #[tv A' l'.length c', .int .i64 z])) (w3.setCell ⟨b1, 0, none⟩ (.slice A' l'.length c')) := by
  have hbz : Below w.heap.size w (w3.setCell ⟨b1, 0, none⟩ (.slice A' l'.length c')) := (hb.trans (hb3.mono hb.size)).setCell (p := ⟨b1, 0, none⟩) hge _
  refine ⟨A', c', l', rfl, ths_put ht3 (fun a e => Nat.lt_of_lt_of_le hlt (hbA3 a e)) (fun g hg => ?_), hl3, hA3, hc3, hbz, fun b hb' ha => ⟨fun a e _ => ?_, fun g hg a e hn => ?_⟩⟩
  · obtain ⟨x, hx, e1, e2, e3⟩ := hsrc g hg
    rw [e1, e3]
    exact ((hw.keep hbz).nm x hx).1
  · have h1 := hbA3 a e
    have h2 := hb.size
    omega
  · obtain ⟨x, hx, e1, e2, e3⟩ := hsrc g hg
    exact ha.2 x hx a (by rw [← e1]; exact e) (by rw [← e3]; exact hn)

set_option maxRecDepth 100000 in
set_option maxHeartbeats 4000000 in
theorem rmdir_any (w : World) (A : Option Addr) (c q : Nat) (l : List Tg) (p : ByteArray) (hq : l.length = q) (h : Ths w A l) (hp : p.size < 4294967281) (hA : A = none → c = 0) (hc : q ≤ c) (hl : q ≤ 100000) :
    Calls Tryz.prog 39 #[tv A q c, .string p] w (TrR w A l (rmdirT (ths l) p)) := by
  have hb0 := ((Below.refl w.heap.size w).alloc (Nat.le_refl _) (.cells #[.slice A q c] 29)).alloc (by simp) (.cells #[.slice none 0 0] 29)
  have HB0 := Lib.hid hb0
  have HX0 := Lib.hid (bx_new w (.slice A q c) (.slice none 0 0) 29 29)
  have HT := Lib.hid (h.keep hb0)
  have HW := Lib.hid h
  have HQ := Lib.hid hq
  have HA := Lib.hid hA
  have fin : ∀ (wr : World) (z : Int), Below w.heap.size w wr → rmdirT (ths l) p = (ths l, z) → TrR w A l (rmdirT (ths l) p) (.returned (.tuple #[tv A q c, .int .i64 z])) (wr.setCell ⟨w.heap.size + 1, 0, none⟩ (.slice A q c)) := fun wr z hb e => by
    have hb2 := hb.setCell (p := ⟨w.heap.size + 1, 0, none⟩) (Nat.le_succ _) (.slice A q c)
    rw [e]
    exact ⟨A, c, l, by rw [hq], h.keep hb2, rfl, hA, by omega, hb2, fun _ _ h => h⟩
  have FIN := Lib.hid fin
  clear h hq hA hb0 fin
  go_enter Tryz.func39, Tryz.ntmps39
  go_upto_region 1 with fail
  generalize (w.alloc (.cells #[.slice A q c] 29)).alloc (.cells #[.slice none 0 0] 29) = w1 at *
  obtain ⟨b1, hb1⟩ : ∃ b1, b1 = w.heap.size + 1 := ⟨_, rfl⟩
  rw [← hb1] at HX0 FIN ⊢
  have HB1 := Lib.hid hb1
  clear hb1
  go_wp2_with fail
  refine (Pat.refSplit_any w1 p hp).mono ?_
  rintro e w2 ⟨hb2, hs⟩
  have HB2 := Lib.hid (HB0.out.trans (hb2.mono HB0.out.size))
  have HT2 := Lib.hid (HT.out.keep hb2)
  have HX2 := Lib.hid (HX0.out.keep hb2)
  clear hb2
  have hc0 := HX2.out.c0
  rcases hs with ⟨n, B, d, hsp, rfl, hn, hd, _⟩ | ⟨hsp, rfl⟩
  · have hn64 := (Pat.pth_spl hsp).1.1
    have HLT := Lib.hid (show rmdirT (ths l) p = if goT (ths l) n ≠ 0 then (ths l, goT (ths l) n) else if dirT (ths l) n = false then (ths l, 6) else if n = [] then (ths l, 1) else if 0 < (kidT (ths l) n).length then (ths l, 8) else (dropT (ths l) (fv (ths l) n).toNat, 0) by unfold rmdirT; rw [hsp])
    have HN2 := Lib.hid hn
    clear hsp hn
    go_wp2_with fail
    refine (go_any w2 A B c d l n q n.length HQ.out rfl HT2.out HN2.out hd (by omega)).mono ?_
    rintro e w3 ⟨rfl, hb3⟩
    have HB3 := Lib.hid (HB2.out.trans (hb3.mono HB2.out.size))
    have HT3 := Lib.hid (HT2.out.keep hb3)
    have HN3 := Lib.hid (HN2.out.keep hb3)
    have HX3 := Lib.hid (HX2.out.keep hb3)
    clear hb3 hc0
    have hc0 := HX3.out.c0
    by_cases hg : goT (ths l) n = 0
    · rw [hg]
      have HG := Lib.hid (HLT.out.trans (if_neg (fun h => h hg)))
      have HG0 := Lib.hid hg
      clear hg
      go_wp2_with fail
      refine (dir_any w3 A B c d l n q n.length HQ.out rfl HT3.out HN3.out).mono ?_
      rintro e w4 ⟨rfl, hb4⟩
      have HB4 := Lib.hid (HB3.out.trans (hb4.mono HB3.out.size))
      have HT4 := Lib.hid (HT3.out.keep hb4)
      have HN4 := Lib.hid (HN3.out.keep hb4)
      have HX4 := Lib.hid (HX3.out.keep hb4)
      clear hb4 hc0
      have hc0 := HX4.out.c0
      have hc1 := HX4.out.c1
      have hf1 := HX4.out.f1
      have hs1 := World.cell?_setCell_same w4 ⟨b1, 0, none⟩ (.slice A q c) hc1
      cases hdr : dirT (ths l) n with
      | false =>
        have HF := Lib.hid (FIN.out w4 6 HB4.out (HG.out.trans (if_pos hdr)))
        clear hdr
        go_wp2
        refine bodyPost_ret (v := .tuple #[tv A q c, .int .i64 6]) ?_ rfl HF.out
        simp [results, Tryz.results39, go_sem, hs1]
      | true =>
        have HV := Lib.hid (HG.out.trans (if_neg (by rw [hdr]; decide)))
        clear hdr
        by_cases h0 : n = []
        · subst h0
          have HF := Lib.hid (FIN.out w4 1 HB4.out (HV.out.trans (if_pos rfl)))
          go_wp2
          refine bodyPost_ret (v := .tuple #[tv A q c, .int .i64 1]) ?_ rfl HF.out
          simp [results, Tryz.results39, go_sem, hs1]
        · have hpos := List.length_pos_iff.2 h0
          have hz : ((n.length : Int) == 0) = false := beq_eq_false_iff_ne.2 (by omega)
          have hz2 : ¬ (n.length : Int) = 0 := by omega
          obtain ⟨i, hfi⟩ := goT_found h0 HG0.out
          have hil := fi_lt hfi
          have hiq : i < q := by rw [← HQ.out]; exact hil
          have HFV := Lib.hid (fv_some hfi)
          have HK := Lib.hid (show rmdirT (ths l) p = if 0 < (kidT (ths l) n).length then (ths l, 8) else (dropT (ths l) i, 0) by
            rw [HV.out, if_neg h0, HFV.out]
            rfl)
          clear h0 hfi hil hpos hc1 hf1 hs1
          go_wp2_with fail
          refine (kids_any w4 A B c d q n.length l n HQ.out rfl HT4.out HN4.out hl (by omega)).mono ?_
          rintro e w5 ⟨G, gc, rfl, -, hb5⟩
          have HB5 := Lib.hid (HB4.out.trans (hb5.mono HB4.out.size))
          have HT5 := Lib.hid (HT4.out.keep hb5)
          have HN5 := Lib.hid (HN4.out.keep hb5)
          have HX5 := Lib.hid (HX4.out.keep hb5)
          clear hb5 hc0
          have hc0 := HX5.out.c0
          have hc1 := HX5.out.c1
          have hf1 := HX5.out.f1
          have hl0 := HX5.out.l0
          by_cases hk : 0 < (kidT (ths l) n).length
          · have HF := Lib.hid (FIN.out w5 8 HB5.out (HK.out.trans (if_pos hk)))
            have hk1 : (0 : Int) < ((kidT (ths l) n).length : Int) := by omega
            have hs1 := World.cell?_setCell_same w5 ⟨b1, 0, none⟩ (.slice A q c) hc1
            clear HK hk
            generalize (kidT (ths l) n).length = m at *
            go_wp2
            refine bodyPost_ret (v := .tuple #[tv A q c, .int .i64 8]) ?_ rfl HF.out
            simp [results, Tryz.results39, go_sem, hs1]
          · have HD := Lib.hid (HK.out.trans (if_neg hk))
            have hk1 : ¬ (0 : Int) < ((kidT (ths l) n).length : Int) := by omega
            clear HK hk
            generalize (kidT (ths l) n).length = m at *
            have HFN := Lib.hid (find_any w5.drew A B c d l n q n.length HQ.out rfl HT5.out.drew (HN5.out.keep (Below.refl _ _).drew))
            rw [HFV.out] at HFN
            go_wp2_with fail
            go_region_held3 (fun W' => W'.cell? ⟨w.heap.size, 0, none⟩ = some (.slice A q c)) (go_keep)
              (first
              | (go_at_call 52
                 with_reducible refine HFN.out.mono ?_
                 rintro e w6 ⟨rfl, hb6⟩
                 have HBF := Lib.hid (below_drew hb6)
                 have HX6 := Lib.hid (HX5.out.keep HBF.out)
                 have HT6 := Lib.hid (HT5.out.keep HBF.out)
                 have hx6 := HX6.out.c0
                 have HWO := Lib.hid (without_any w6 A c q i l HQ.out HT6.out HA.out hc hiq)
                 clear hb6)
              | (go_at_call 74
                 with_reducible refine HWO.out.mono ?_
                 rintro e w7 ⟨A', c', l', rfl, ht3, hl3, hA3, hc3, hb3, hbA3, hsrc⟩
                 have HX7 := Lib.hid (HX6.out.keep hb3)
                 have hs7 := World.cell?_setCell_same w7 ⟨b1, 0, none⟩ (.slice A' l'.length c') HX7.out.c1
                 have hx7 := HX7.out.c0
                 have hx17 := HX7.out.c1
                 have hf17 := HX7.out.f1
                 have hx8 : (w7.setCell ⟨b1, 0, none⟩ (.slice A' l'.length c')).cell? ⟨w.heap.size, 0, none⟩ = some (.slice A q c) := by
                   rw [World.cell?_setCell_other _ _ _ _ (fun e => by injection e with e; have := HB1.out; omega)]
                   exact hx7
                 have HF := Lib.hid (show TrR w A l (rmdirT (ths l) p) (.returned (.tuple #[tv A' l'.length c', .int .i64 0])) (w7.setCell ⟨b1, 0, none⟩ (.slice A' l'.length c')) from by
                   rw [HD.out]
                   exact end_tr HW.out (HB5.out.trans (HBF.out.mono HB5.out.size)) HX6.out.l1 (by have := HB1.out; omega) ht3 hl3 hA3 hc3 hb3 hbA3 hsrc 0)
                 clear ht3 hl3 hA3 hc3 hb3 hbA3 hsrc
                 generalize l'.length = m' at *))
            go_wp2
            refine bodyPost_ret (v := .tuple #[tv A' m' c', .int .i64 0]) ?_ rfl HF.out
            simp [results, Tryz.results39, go_sem, hs7]
    · have HF := Lib.hid (FIN.out w3 (goT (ths l) n) HB3.out (HLT.out.trans (if_pos hg)))
      have hg1 : (goT (ths l) n == 0) = false := by simpa using hg
      have hc1 := HX3.out.c1
      have hf1 := HX3.out.f1
      have hs1 := World.cell?_setCell_same w3 ⟨b1, 0, none⟩ (.slice A q c) hc1
      clear HLT
      generalize goT (ths l) n = z at *
      go_wp2
      refine bodyPost_ret (v := .tuple #[tv A q c, .int .i64 z]) ?_ rfl HF.out
      simp [results, Tryz.results39, go_sem, hs1]
  · have HF := Lib.hid (FIN.out w2 3 HB2.out (by unfold rmdirT; rw [hsp]))
    have hc1 := HX2.out.c1
    have hf1 := HX2.out.f1
    have hs1 := World.cell?_setCell_same w2 ⟨b1, 0, none⟩ (.slice A q c) hc1
    clear hsp
    go_wp2
    refine bodyPost_ret (v := .tuple #[tv A q c, .int .i64 3]) ?_ rfl HF.out
    simp [results, Tryz.results39, go_sem, hs1]
end Tre
end Go.Proofs.YtkhkcfbacnkcnaaGreatDoor
/- Just so many bytes. -/
namespace Go.Proofs.YtkhkcfbacnkcnaaGreatDoor
open Go.RowKit Go.MapKept
namespace Tre
open Pat (Txs)

/-- just so many bytes; the error -/
def truncT (t : List Th) (p : ByteArray) (n : Int) : List Th × Int :=
  if (fileT t p).2 ≠ 0 then (t, (fileT t p).2) else if n < 0 ∨ 268435456 < n then (t, 9) else
    (setT t (fileT t p).1.toNat (if ((datT t (fileT t p).1.toNat).size : Int) < n then datT t (fileT t p).1.toNat ++ zt (n - (datT t (fileT t p).1.toNat).size).toNat else (datT t (fileT t p).1.toNat).extract 0 n.toNat), 0)

/-- two texts put together -/
theorem str_add (s z : ByteArray) (h : s.size + z.size ≤ 9223372036854775807) : Op.stringOp .add s z = pure (.string (s ++ z)) := by
  have hm : IntKind.i64.max = 9223372036854775807 := by decide
  unfold Op.stringOp
  simp only
  rw [if_neg (by rw [hm]; omega)]

set_option maxRecDepth 100000 in
set_option maxHeartbeats 4000000 in
theorem trunc_any (w : World) (A : Option Addr) (c q : Nat) (l : List Tg) (p : ByteArray) (x : Int) (hq : l.length = q) (h : Ths w A l) (hp : p.size < 4294967281) (hA : A = none → c = 0) (hc : q ≤ c) :
    Calls Tryz.prog 37 #[tv A q c, .string p, .int .i64 x] w (TrR w A l (truncT (ths l) p x)) := by
  have hb0 := ((Below.refl w.heap.size w).alloc (Nat.le_refl _) (.cells #[.slice A q c] 29)).alloc (by simp) (.cells #[.slice none 0 0] 29)
  have HB0 := Lib.hid hb0
  have HX0 := Lib.hid (bx_new w (.slice A q c) (.slice none 0 0) 29 29)
  have HT := Lib.hid (h.keep hb0)
  have HW := Lib.hid h
  have HQ := Lib.hid hq
  have HA := Lib.hid hA
  have fin : ∀ (wr : World) (z : Int), Below w.heap.size w wr → truncT (ths l) p x = (ths l, z) → TrR w A l (truncT (ths l) p x) (.returned (.tuple #[tv A q c, .int .i64 z])) (wr.setCell ⟨w.heap.size + 1, 0, none⟩ (.slice A q c)) := fun wr z hb e => by
    have hb2 := hb.setCell (p := ⟨w.heap.size + 1, 0, none⟩) (Nat.le_succ _) (.slice A q c)
    rw [e]
    exact ⟨A, c, l, by rw [hq], h.keep hb2, rfl, hA, by omega, hb2, fun _ _ h => h⟩
  have FIN := Lib.hid fin
  clear h hq hA hb0 fin
  go_enter Tryz.func37, Tryz.ntmps37
  go_upto_region 1 with fail
  generalize (w.alloc (.cells #[.slice A q c] 29)).alloc (.cells #[.slice none 0 0] 29) = w1 at *
  obtain ⟨b1, hb1⟩ : ∃ b1, b1 = w.heap.size + 1 := ⟨_, rfl⟩
  rw [← hb1] at HX0 FIN ⊢
  have HB1 := Lib.hid hb1
  have hc0 := HX0.out.c0
  clear hb1
  go_wp2_with fail
  refine (file_any w1 A c q l p HQ.out HT.out hp).mono ?_
  rintro e w2 ⟨rfl, hb2⟩
  have HB2 := Lib.hid (HB0.out.trans (hb2.mono HB0.out.size))
  have HT2 := Lib.hid (HT.out.keep hb2)
  have HX2 := Lib.hid (HX0.out.keep hb2)
  clear hb2 hc0
  have hc0 := HX2.out.c0
  have hc1 := HX2.out.c1
  have hf1 := HX2.out.f1
  have hl0 := HX2.out.l0
  have hs1 := World.cell?_setCell_same w2 ⟨b1, 0, none⟩ (.slice A q c) hc1
  by_cases he : (fileT (ths l) p).2 = 0
  · obtain ⟨n, i, -, -, -, -, hil, hfv⟩ := fileT_ok he
    have hil2 : i < l.length := by simpa using hil
    have HTT := Lib.hid (show truncT (ths l) p x = if x < 0 ∨ 268435456 < x then (ths l, 9) else (setT (ths l) i (if ((l[i].2.2.2.2).size : Int) < x then l[i].2.2.2.2 ++ zt (x - (l[i].2.2.2.2).size).toNat else (l[i].2.2.2.2).extract 0 x.toNat), 0) by
      unfold truncT
      rw [if_neg (fun h => h he), hfv, show ((i : Int)).toNat = i from rfl, dat_at hil2])
    rw [he, hfv]
    have hiq : i < q := by rw [← HQ.out]; exact hil2
    have hi0 : (0 : Int) ≤ (i : Int) := by omega
    have hi1 : (i : Int) < (q : Int) := by omega
    obtain ⟨b, o, hAe, _, h0, h1, h2⟩ := HT2.out.at' i hil2
    have hsz := HT2.out.sz _ (List.getElem_mem hil2)
    have HIL := Lib.hid hil2
    generalize hgi : l[i] = g at *
    obtain ⟨ga, gx, gn, gd, s⟩ := g
    simp only at h2 hsz HTT
    subst hAe
    clear he hfv hil hil2 h0 h1 hgi
    by_cases hx : x < 0
    · have HF := Lib.hid (FIN.out w2 9 HB2.out (HTT.out.trans (if_pos (.inl hx))))
      go_wp2
      refine bodyPost_ret (v := .tuple #[tv (some ⟨b, o, none⟩) q c, .int .i64 9]) ?_ rfl HF.out
      simp [results, Tryz.results37, go_sem, hs1]
    · by_cases hx2 : 268435456 < x
      · have HF := Lib.hid (FIN.out w2 9 HB2.out (HTT.out.trans (if_pos (.inr hx2))))
        go_wp2
        refine bodyPost_ret (v := .tuple #[tv (some ⟨b, o, none⟩) q c, .int .i64 9]) ?_ rfl HF.out
        simp [results, Tryz.results37, go_sem, hs1]
      · have HT3 := Lib.hid (HTT.out.trans (if_neg (by omega)))
        have hx0 : (0 : Int) ≤ x := by omega
        by_cases hxs : (s.size : Int) < x
        · have HD := Lib.hid (show truncT (ths l) p x = (setT (ths l) i (s ++ zt (x - s.size).toNat), 0) by rw [HT3.out, if_pos hxs])
          obtain ⟨k, hk⟩ : ∃ k : Nat, x - (s.size : Int) = (k : Int) := ⟨(x - s.size).toNat, by omega⟩
          have HK := Lib.hid (show (x - (s.size : Int)).toNat = k by omega)
          rw [HK.out] at HD
          have hwr : IntKind.wrap .i64 (x - (s.size : Int)) = x - (s.size : Int) := by rw [IntKind.wrap_i64]; omega
          have hk28 : k ≤ 268435456 := by omega
          have hadd : s.size + (zt k).size ≤ 9223372036854775807 := by rw [zt_size]; omega
          have HSS := Lib.hid (show (s ++ zt k).size ≤ 9223372036854775807 by rw [ByteArray.size_append]; exact hadd)
          have HZ := Lib.hid (zeros_any w2.drew k (x - (s.size : Int)) hk hk28)
          have hpl := str_add s (zt k) hadd
          have hadd2 : (s.size : Int) + ((zt k).size : Int) ≤ 9223372036854775807 := by omega
          have hadd3 : ¬ (9223372036854775807 : Int) < (s.size : Int) + ((zt k).size : Int) := by omega
          have hadd4 : ¬ (9223372036854775807 : Int) < ((s.size + (zt k).size : Nat) : Int) := by omega
          clear hk HK HT3 HTT
          generalize zt k = Z at *
          go_wp2_with fail
          go_region_held3 (fun W' => W'.cell? ⟨w.heap.size, 0, none⟩ = some (.slice (some ⟨b, o, none⟩) q c)) (go_keep)
            (first
            | (go_at_call 72
               with_reducible refine HZ.out.mono ?_
               rintro e w6 ⟨rfl, hb6⟩
               have HBF := Lib.hid (below_drew hb6)
               have HX6 := Lib.hid (HX2.out.keep HBF.out)
               have HT6 := Lib.hid (HT2.out.keep HBF.out)
               have hx6 := HX6.out.c0
               have HWO := Lib.hid (set_any w6 (some ⟨b, o, none⟩) c q i l (s ++ Z) HQ.out HT6.out HSS.out HA.out HIL.out)
               clear hb6)
            | (go_at_call 73
               with_reducible refine HWO.out.mono ?_
               rintro e w7 ⟨A', c', l', rfl, ht3, hl3, hA3, hc3, hb3, hbA3, hsrc⟩
               have HX7 := Lib.hid (HX6.out.keep hb3)
               have hs7 := World.cell?_setCell_same w7 ⟨b1, 0, none⟩ (.slice A' l'.length c') HX7.out.c1
               have hx7 := HX7.out.c0
               have hx17 := HX7.out.c1
               have hf17 := HX7.out.f1
               have hx8 : (w7.setCell ⟨b1, 0, none⟩ (.slice A' l'.length c')).cell? ⟨w.heap.size, 0, none⟩ = some (.slice (some ⟨b, o, none⟩) q c) := by
                 rw [World.cell?_setCell_other _ _ _ _ (fun e => by injection e with e; have := HB1.out; omega)]
                 exact hx7
               have HF := Lib.hid (show TrR w (some ⟨b, o, none⟩) l (truncT (ths l) p x) (.returned (.tuple #[tv A' l'.length c', .int .i64 0])) (w7.setCell ⟨b1, 0, none⟩ (.slice A' l'.length c')) from by
                 rw [HD.out]
                 exact end_tr HW.out (HB2.out.trans (HBF.out.mono HB2.out.size)) HX6.out.l1 (by have := HB1.out; omega) ht3 hl3 hA3 hc3 hb3 hbA3 hsrc 0)
               clear ht3 hl3 hA3 hc3 hb3 hbA3 hsrc
               generalize l'.length = m' at *))
          go_wp2
          refine bodyPost_ret (v := .tuple #[tv A' m' c', .int .i64 0]) ?_ rfl HF.out
          simp [results, Tryz.results37, go_sem, hs7]
        · have HD := Lib.hid (show truncT (ths l) p x = (setT (ths l) i (s.extract 0 x.toNat), 0) by rw [HT3.out, if_neg hxs])
          have hx1 : x ≤ (s.size : Int) := by omega
          have HSS := Lib.hid (show (s.extract 0 x.toNat).size ≤ 9223372036854775807 by rw [ByteArray.size_extract]; omega)
          have HWO := Lib.hid (set_any w2.drew (some ⟨b, o, none⟩) c q i l (s.extract 0 x.toNat) HQ.out HT2.out.drew HSS.out HA.out HIL.out)
          clear HT3 HTT
          go_wp2_with fail
          go_region_held3 (fun W' => W'.cell? ⟨w.heap.size, 0, none⟩ = some (.slice (some ⟨b, o, none⟩) q c)) (go_keep)
            (first
            | (go_at_call 73
               with_reducible refine HWO.out.mono ?_
               rintro e w7 ⟨A', c', l', rfl, ht3, hl3, hA3, hc3, hb3, hbA3, hsrc⟩
               have HX7 := Lib.hid (HX2.out.keep (below_drew hb3))
               have hs7 := World.cell?_setCell_same w7 ⟨b1, 0, none⟩ (.slice A' l'.length c') HX7.out.c1
               have hx7 := HX7.out.c0
               have hx17 := HX7.out.c1
               have hf17 := HX7.out.f1
               have hx8 : (w7.setCell ⟨b1, 0, none⟩ (.slice A' l'.length c')).cell? ⟨w.heap.size, 0, none⟩ = some (.slice (some ⟨b, o, none⟩) q c) := by
                 rw [World.cell?_setCell_other _ _ _ _ (fun e => by injection e with e; have := HB1.out; omega)]
                 exact hx7
               have HF := Lib.hid (show TrR w (some ⟨b, o, none⟩) l (truncT (ths l) p x) (.returned (.tuple #[tv A' l'.length c', .int .i64 0])) (w7.setCell ⟨b1, 0, none⟩ (.slice A' l'.length c')) from by
                 rw [HD.out]
                 exact end_tr HW.out HB2.out HX2.out.l1 (by have := HB1.out; omega) ht3 hl3 hA3 hc3 (below_drew hb3) hbA3 hsrc 0)
               clear ht3 hl3 hA3 hc3 hb3 hbA3 hsrc
               generalize l'.length = m' at *))
          go_wp2
          refine bodyPost_ret (v := .tuple #[tv A' m' c', .int .i64 0]) ?_ rfl HF.out
          simp [results, Tryz.results37, go_sem, hs7]
  · have HF := Lib.hid (FIN.out w2 (fileT (ths l) p).2 HB2.out (if_pos he))
    have he1 : ((fileT (ths l) p).2 == 0) = false := by simpa using he
    generalize (fileT (ths l) p).2 = z at *
    go_wp2
    refine bodyPost_ret (v := .tuple #[tv A q c, .int .i64 z]) ?_ rfl HF.out
    simp [results, Tryz.results37, go_sem, hs1]
end Tre
end Go.Proofs.YtkhkcfbacnkcnaaGreatDoor
/- A file's bytes from a place on. -/
namespace Go.Proofs.YtkhkcfbacnkcnaaGreatDoor
open Go.RowKit Go.MapKept
namespace Tre
open Pat (Txs)

/-- bytes with noughts behind them up to a place -/
def padT (s : ByteArray) (a : Int) : ByteArray := if (s.size : Int) < a then s ++ zt (a - s.size).toNat else s
/-- bytes, these ones from a place on -/
def wrT (s : ByteArray) (a : Int) (b : ByteArray) : ByteArray :=
  (padT s a).extract 0 a.toNat ++ b ++ (if a + (b.size : Int) < ((padT s a).size : Int) then (padT s a).extract (a.toNat + b.size) (padT s a).size else ⟨#[]⟩)
/-- a file's bytes from a place on; the error -/
def writeT (t : List Th) (p : ByteArray) (a : Int) (b : ByteArray) : List Th × Int :=
  if (fileT t p).2 ≠ 0 then (t, (fileT t p).2) else if a < 0 ∨ 268435456 < a ∨ 268435456 < a + (b.size : Int) then (t, 9) else if b.size = 0 then (t, 0) else
    (setT t (fileT t p).1.toNat (wrT (datT t (fileT t p).1.toNat) a b), 0)

set_option maxRecDepth 100000 in
set_option maxHeartbeats 4000000 in
theorem write_any (w : World) (A : Option Addr) (c q : Nat) (l : List Tg) (p : ByteArray) (x : Int) (v : ByteArray) (hq : l.length = q) (h : Ths w A l) (hp : p.size < 4294967281) (hA : A = none → c = 0) (hc : q ≤ c) (hv : v.size ≤ 1000000) (hdat : ∀ g ∈ l, g.2.2.2.2.size ≤ 1000000000) :
    Calls Tryz.prog 36 #[tv A q c, .string p, .int .i64 x, .string v] w (TrR w A l (writeT (ths l) p x v)) := by
  have hb0 := ((Below.refl w.heap.size w).alloc (Nat.le_refl _) (.cells #[.slice A q c] 29)).alloc (by simp) (.cells #[.slice none 0 0] 29)
  have HB0 := Lib.hid hb0
  have HX0 := Lib.hid (bx_new w (.slice A q c) (.slice none 0 0) 29 29)
  have HT := Lib.hid (h.keep hb0)
  have HW := Lib.hid h
  have HQ := Lib.hid hq
  have HA := Lib.hid hA
  have fin : ∀ (wr : World) (z : Int), Below w.heap.size w wr → writeT (ths l) p x v = (ths l, z) → TrR w A l (writeT (ths l) p x v) (.returned (.tuple #[tv A q c, .int .i64 z])) (wr.setCell ⟨w.heap.size + 1, 0, none⟩ (.slice A q c)) := fun wr z hb e => by
    have hb2 := hb.setCell (p := ⟨w.heap.size + 1, 0, none⟩) (Nat.le_succ _) (.slice A q c)
    rw [e]
    exact ⟨A, c, l, by rw [hq], h.keep hb2, rfl, hA, by omega, hb2, fun _ _ h => h⟩
  have FIN := Lib.hid fin
  clear h hq hA hb0 fin
  go_enter Tryz.func36, Tryz.ntmps36
  go_upto_region 1 with fail
  generalize (w.alloc (.cells #[.slice A q c] 29)).alloc (.cells #[.slice none 0 0] 29) = w1 at *
  obtain ⟨b1, hb1⟩ : ∃ b1, b1 = w.heap.size + 1 := ⟨_, rfl⟩
  rw [← hb1] at HX0 FIN ⊢
  have HB1 := Lib.hid hb1
  have hc0 := HX0.out.c0
  clear hb1
  go_wp2_with fail
  refine (file_any w1 A c q l p HQ.out HT.out hp).mono ?_
  rintro e w2 ⟨rfl, hb2⟩
  have HB2 := Lib.hid (HB0.out.trans (hb2.mono HB0.out.size))
  have HT2 := Lib.hid (HT.out.keep hb2)
  have HX2 := Lib.hid (HX0.out.keep hb2)
  clear hb2 hc0
  have hc0 := HX2.out.c0
  have hc1 := HX2.out.c1
  have hf1 := HX2.out.f1
  have hl0 := HX2.out.l0
  have hs1 := World.cell?_setCell_same w2 ⟨b1, 0, none⟩ (.slice A q c) hc1
  by_cases he : (fileT (ths l) p).2 = 0
  · obtain ⟨n, i, -, -, -, -, hil, hfv⟩ := fileT_ok he
    have hil2 : i < l.length := by simpa using hil
    have HTT := Lib.hid (show writeT (ths l) p x v = if x < 0 ∨ 268435456 < x ∨ 268435456 < x + (v.size : Int) then (ths l, 9) else if v.size = 0 then (ths l, 0) else (setT (ths l) i (wrT (l[i].2.2.2.2) x v), 0) by
      unfold writeT
      rw [if_neg (fun h => h he), hfv, show ((i : Int)).toNat = i from rfl, dat_at hil2])
    have hsd := hdat _ (List.getElem_mem hil2)
    rw [he, hfv]
    have hiq : i < q := by rw [← HQ.out]; exact hil2
    have hi0 : (0 : Int) ≤ (i : Int) := by omega
    have hi1 : (i : Int) < (q : Int) := by omega
    obtain ⟨b, o, hAe, _, h0, h1, h2⟩ := HT2.out.at' i hil2
    have hsz := HT2.out.sz _ (List.getElem_mem hil2)
    have HIL := Lib.hid hil2
    generalize hgi : l[i] = g at *
    obtain ⟨ga, gx, gn, gd, s⟩ := g
    simp only at h2 hsz HTT hsd
    subst hAe
    clear he hfv hil hil2 h0 h1 hgi
    by_cases hx : x < 0
    · have HF := Lib.hid (FIN.out w2 9 HB2.out (HTT.out.trans (if_pos (.inl hx))))
      go_wp2
      refine bodyPost_ret (v := .tuple #[tv (some ⟨b, o, none⟩) q c, .int .i64 9]) ?_ rfl HF.out
      simp [results, Tryz.results36, go_sem, hs1]
    · by_cases hx2 : 268435456 < x
      · have HF := Lib.hid (FIN.out w2 9 HB2.out (HTT.out.trans (if_pos (.inr (.inl hx2)))))
        go_wp2
        refine bodyPost_ret (v := .tuple #[tv (some ⟨b, o, none⟩) q c, .int .i64 9]) ?_ rfl HF.out
        simp [results, Tryz.results36, go_sem, hs1]
      · by_cases hx3 : 268435456 < x + (v.size : Int)
        · have HF := Lib.hid (FIN.out w2 9 HB2.out (HTT.out.trans (if_pos (.inr (.inr hx3)))))
          go_wp2
          refine bodyPost_ret (v := .tuple #[tv (some ⟨b, o, none⟩) q c, .int .i64 9]) ?_ rfl HF.out
          simp [results, Tryz.results36, go_sem, hs1]
        · have HT3 := Lib.hid (HTT.out.trans (if_neg (by omega)))
          by_cases hv0 : v.size = 0
          · have HF := Lib.hid (FIN.out w2 0 HB2.out (HT3.out.trans (if_pos hv0)))
            have hvl : v.toList = [] := by
              have : v.data.toList = [] := List.length_eq_zero_iff.1 (by rw [← Lib.size_eq]; exact hv0)
              rw [Lib.toList_data, this]
            have hvl2 : (v.toList == []) = true := by rw [hvl]; rfl
            clear hv0
            go_wp2
            refine bodyPost_ret (v := .tuple #[tv (some ⟨b, o, none⟩) q c, .int .i64 0]) ?_ rfl HF.out
            simp [results, Tryz.results36, go_sem, hs1]
          · have HD := Lib.hid (HT3.out.trans (if_neg hv0))
            have hvl : ¬ v.toList = [] := fun e => hv0 (by rw [Lib.size_eq, ← Lib.toList_data, e]; rfl)
            have hvl2 : (v.toList == []) = false := by simpa using hvl
            have hx0 : (0 : Int) ≤ x := by omega
            obtain ⟨a, ha⟩ : ∃ a : Nat, x = (a : Int) := Int.eq_ofNat_of_zero_le hx0
            subst ha
            clear hv0 HTT HT3 hs1 hc1 hf1
            have hx28 : a ≤ 268435456 := by omega
            have hav : ¬ (268435456 : Int) < (a : Int) + (v.size : Int) := hx3
            have htn : ((a : Int)).toNat = a := rfl
            by_cases hat : s.size < a
            · obtain ⟨k, hk⟩ : ∃ k : Nat, (a : Int) - (s.size : Int) = (k : Int) := ⟨a - s.size, by omega⟩
              have HSZ := Lib.hid (show (s ++ zt k).size = a by rw [ByteArray.size_append, zt_size]; omega)
              have HWT := Lib.hid (show writeT (ths l) p (a : Int) v = (setT (ths l) i ((s ++ zt k).extract 0 a ++ v ++ ⟨#[]⟩), 0) by
                rw [HD.out]
                have e1 : padT s (a : Int) = s ++ zt k := by
                  unfold padT
                  rw [if_pos (by omega), hk]
                  rfl
                unfold wrT
                rw [e1, HSZ.out, if_neg (by omega), htn])
              have hadd : s.size + (zt k).size ≤ 9223372036854775807 := by rw [zt_size]; omega
              have hpl := str_add s (zt k) hadd
              have hatI : (s.size : Int) < (a : Int) := by omega
              have hk28 : k ≤ 268435456 := by omega
              have HZ := Lib.hid (zeros_any w2 k ((a : Int) - (s.size : Int)) hk hk28)
              have hadd2 : (s.size : Int) + ((zt k).size : Int) ≤ 9223372036854775807 := by omega
              clear hk HD hat
              generalize zt k = Z at *
              go_wp2_with fail
              refine HZ.out.mono ?_
              rintro e w3 ⟨rfl, hb3⟩
              have HB3 := Lib.hid (HB2.out.trans (hb3.mono HB2.out.size))
              have HT3 := Lib.hid (HT2.out.keep hb3)
              have HX3 := Lib.hid (HX2.out.keep hb3)
              clear hb3 HZ hc0 hl0
              go_upto_region 11 with fail
              obtain ⟨s1, hs1⟩ : ∃ s1, s1 = s ++ Z := ⟨_, rfl⟩
              rw [← hs1] at HSZ HWT ⊢
              have hno : ¬ (a : Int) + (v.size : Int) < (s1.size : Int) := by rw [HSZ.out]; omega
              have has : (a : Int) ≤ (s1.size : Int) := by rw [HSZ.out]; omega
              have hsb : s1.size ≤ 1268435456 := by rw [HSZ.out]; omega
              clear hs1 hpl hadd hadd2 hatI HSZ
              go_upto_region 14 with fail
              obtain ⟨T, hT⟩ : ∃ T : ByteArray, T = ⟨#[]⟩ := ⟨_, rfl⟩
              rw [← hT] at HWT ⊢
              have hTs : T.size ≤ 1268435456 := by rw [hT]; exact Nat.zero_le _
              clear hT hno
              have hpl1 := str_add (s1.extract 0 a) v (by rw [ByteArray.size_extract]; omega)
              have hpl2 := str_add (s1.extract 0 a ++ v) T (by rw [ByteArray.size_append, ByteArray.size_extract]; omega)
              have HSS := Lib.hid (show (s1.extract 0 a ++ v ++ T).size ≤ 9223372036854775807 by rw [ByteArray.size_append, ByteArray.size_append, ByteArray.size_extract]; omega)
              have HWO := Lib.hid (set_any w3.drew (some ⟨b, o, none⟩) c q i l (s1.extract 0 a ++ v ++ T) HQ.out HT3.out.drew HSS.out HA.out HIL.out)
              have hc3 := HX3.out.c0
              have hl3' := HX3.out.l0
              clear h2 hsz hsd hx3 hav hdat
              go_wp2_with fail
              go_region_held3 (fun W' => W'.cell? ⟨w.heap.size, 0, none⟩ = some (.slice (some ⟨b, o, none⟩) q c)) (go_keep)
                (first
                | (go_at_call 73
                   with_reducible refine HWO.out.mono ?_
                   rintro e w7 ⟨A', c', l', rfl, ht3, hl3, hA3, hc3', hb3, hbA3, hsrc⟩
                   have HX7 := Lib.hid (HX3.out.keep (below_drew hb3))
                   have hs7 := World.cell?_setCell_same w7 ⟨b1, 0, none⟩ (.slice A' l'.length c') HX7.out.c1
                   have hx7 := HX7.out.c0
                   have hx17 := HX7.out.c1
                   have hf17 := HX7.out.f1
                   have hx8 : (w7.setCell ⟨b1, 0, none⟩ (.slice A' l'.length c')).cell? ⟨w.heap.size, 0, none⟩ = some (.slice (some ⟨b, o, none⟩) q c) := by
                     rw [World.cell?_setCell_other _ _ _ _ (fun e => by injection e with e; have := HB1.out; omega)]
                     exact hx7
                   have HF := Lib.hid (show TrR w (some ⟨b, o, none⟩) l (writeT (ths l) p (a : Int) v) (.returned (.tuple #[tv A' l'.length c', .int .i64 0])) (w7.setCell ⟨b1, 0, none⟩ (.slice A' l'.length c')) from by
                     rw [HWT.out]
                     exact end_tr HW.out HB3.out HX3.out.l1 (by have := HB1.out; omega) ht3 hl3 hA3 hc3' (below_drew hb3) hbA3 hsrc 0)
                   clear ht3 hl3 hA3 hc3' hb3 hbA3 hsrc
                   generalize l'.length = m' at *))
              go_wp2
              refine bodyPost_ret (v := .tuple #[tv A' m' c', .int .i64 0]) ?_ rfl HF.out
              simp [results, Tryz.results36, go_sem, hs7]
            · have e1 : padT s (a : Int) = s := by
                unfold padT
                rw [if_neg (by omega)]
              have hatI : ¬ (s.size : Int) < (a : Int) := by omega
              have HB3 := HB2
              have HT3 := HT2
              have HX3 := HX2
              have has : (a : Int) ≤ (s.size : Int) := by omega
              have hsb : s.size ≤ 1268435456 := by omega
              by_cases hno : (a : Int) + (v.size : Int) < (s.size : Int)
              · have HWT := Lib.hid (show writeT (ths l) p (a : Int) v = (setT (ths l) i (s.extract 0 a ++ v ++ s.extract (a + v.size) s.size), 0) by
                  rw [HD.out]
                  unfold wrT
                  rw [e1, if_pos hno, htn])
                have hav1 : (0 : Int) ≤ (a : Int) + (v.size : Int) := by omega
                have hav2 : (a : Int) + (v.size : Int) ≤ (s.size : Int) := by omega
                clear HD e1
                go_upto_region 14 with fail
                obtain ⟨T, hT⟩ : ∃ T : ByteArray, T = s.extract (a + v.size) s.size := ⟨_, rfl⟩
                rw [← hT] at HWT ⊢
                have hTs : T.size ≤ 1268435456 := by rw [hT, ByteArray.size_extract]; omega
                clear hT hno
                have hpl1 := str_add (s.extract 0 a) v (by rw [ByteArray.size_extract]; omega)
                have hpl2 := str_add (s.extract 0 a ++ v) T (by rw [ByteArray.size_append, ByteArray.size_extract]; omega)
                have HSS := Lib.hid (show (s.extract 0 a ++ v ++ T).size ≤ 9223372036854775807 by rw [ByteArray.size_append, ByteArray.size_append, ByteArray.size_extract]; omega)
                have HWO := Lib.hid (set_any w2.drew (some ⟨b, o, none⟩) c q i l (s.extract 0 a ++ v ++ T) HQ.out HT3.out.drew HSS.out HA.out HIL.out)
                have hc3 := HX3.out.c0
                have hl3' := HX3.out.l0
                clear h2 hsz hsd hx3 hav hdat
                go_wp2_with fail
                go_region_held3 (fun W' => W'.cell? ⟨w.heap.size, 0, none⟩ = some (.slice (some ⟨b, o, none⟩) q c)) (go_keep)
                  (first
                  | (go_at_call 73
                     with_reducible refine HWO.out.mono ?_
                     rintro e w7 ⟨A', c', l', rfl, ht3, hl3, hA3, hc3', hb3, hbA3, hsrc⟩
                     have HX7 := Lib.hid (HX3.out.keep (below_drew hb3))
                     have hs7 := World.cell?_setCell_same w7 ⟨b1, 0, none⟩ (.slice A' l'.length c') HX7.out.c1
                     have hx7 := HX7.out.c0
                     have hx17 := HX7.out.c1
                     have hf17 := HX7.out.f1
                     have hx8 : (w7.setCell ⟨b1, 0, none⟩ (.slice A' l'.length c')).cell? ⟨w.heap.size, 0, none⟩ = some (.slice (some ⟨b, o, none⟩) q c) := by
                       rw [World.cell?_setCell_other _ _ _ _ (fun e => by injection e with e; have := HB1.out; omega)]
                       exact hx7
                     have HF := Lib.hid (show TrR w (some ⟨b, o, none⟩) l (writeT (ths l) p (a : Int) v) (.returned (.tuple #[tv A' l'.length c', .int .i64 0])) (w7.setCell ⟨b1, 0, none⟩ (.slice A' l'.length c')) from by
                       rw [HWT.out]
                       exact end_tr HW.out HB3.out HX3.out.l1 (by have := HB1.out; omega) ht3 hl3 hA3 hc3' (below_drew hb3) hbA3 hsrc 0)
                     clear ht3 hl3 hA3 hc3' hb3 hbA3 hsrc
                     generalize l'.length = m' at *))
                go_wp2
                refine bodyPost_ret (v := .tuple #[tv A' m' c', .int .i64 0]) ?_ rfl HF.out
                simp [results, Tryz.results36, go_sem, hs7]
              · have HWT := Lib.hid (show writeT (ths l) p (a : Int) v = (setT (ths l) i (s.extract 0 a ++ v ++ ⟨#[]⟩), 0) by
                  rw [HD.out]
                  unfold wrT
                  rw [e1, if_neg hno, htn])
                clear HD e1
                go_upto_region 14 with fail
                obtain ⟨T, hT⟩ : ∃ T : ByteArray, T = ⟨#[]⟩ := ⟨_, rfl⟩
                rw [← hT] at HWT ⊢
                have hTs : T.size ≤ 1268435456 := by rw [hT]; exact Nat.zero_le _
                clear hT hno
                have hpl1 := str_add (s.extract 0 a) v (by rw [ByteArray.size_extract]; omega)
                have hpl2 := str_add (s.extract 0 a ++ v) T (by rw [ByteArray.size_append, ByteArray.size_extract]; omega)
                have HSS := Lib.hid (show (s.extract 0 a ++ v ++ T).size ≤ 9223372036854775807 by rw [ByteArray.size_append, ByteArray.size_append, ByteArray.size_extract]; omega)
                have HWO := Lib.hid (set_any w2.drew (some ⟨b, o, none⟩) c q i l (s.extract 0 a ++ v ++ T) HQ.out HT3.out.drew HSS.out HA.out HIL.out)
                have hc3 := HX3.out.c0
                have hl3' := HX3.out.l0
                clear h2 hsz hsd hx3 hav hdat
                go_wp2_with fail
                go_region_held3 (fun W' => W'.cell? ⟨w.heap.size, 0, none⟩ = some (.slice (some ⟨b, o, none⟩) q c)) (go_keep)
                  (first
                  | (go_at_call 73
                     with_reducible refine HWO.out.mono ?_
                     rintro e w7 ⟨A', c', l', rfl, ht3, hl3, hA3, hc3', hb3, hbA3, hsrc⟩
                     have HX7 := Lib.hid (HX3.out.keep (below_drew hb3))
                     have hs7 := World.cell?_setCell_same w7 ⟨b1, 0, none⟩ (.slice A' l'.length c') HX7.out.c1
                     have hx7 := HX7.out.c0
                     have hx17 := HX7.out.c1
                     have hf17 := HX7.out.f1
                     have hx8 : (w7.setCell ⟨b1, 0, none⟩ (.slice A' l'.length c')).cell? ⟨w.heap.size, 0, none⟩ = some (.slice (some ⟨b, o, none⟩) q c) := by
                       rw [World.cell?_setCell_other _ _ _ _ (fun e => by injection e with e; have := HB1.out; omega)]
                       exact hx7
                     have HF := Lib.hid (show TrR w (some ⟨b, o, none⟩) l (writeT (ths l) p (a : Int) v) (.returned (.tuple #[tv A' l'.length c', .int .i64 0])) (w7.setCell ⟨b1, 0, none⟩ (.slice A' l'.length c')) from by
                       rw [HWT.out]
                       exact end_tr HW.out HB3.out HX3.out.l1 (by have := HB1.out; omega) ht3 hl3 hA3 hc3' (below_drew hb3) hbA3 hsrc 0)
                     clear ht3 hl3 hA3 hc3' hb3 hbA3 hsrc
                     generalize l'.length = m' at *))
                go_wp2
                refine bodyPost_ret (v := .tuple #[tv A' m' c', .int .i64 0]) ?_ rfl HF.out
                simp [results, Tryz.results36, go_sem, hs7]
  · have HF := Lib.hid (FIN.out w2 (fileT (ths l) p).2 HB2.out (if_pos he))
    have he1 : ((fileT (ths l) p).2 == 0) = false := by simpa using he
    generalize (fileT (ths l) p).2 = z at *
    go_wp2
    refine bodyPost_ret (v := .tuple #[tv A q c, .int .i64 z]) ?_ rfl HF.out
    simp [results, Tryz.results36, go_sem, hs1]
end Tre
end Go.Proofs.YtkhkcfbacnkcnaaGreatDoor
/- The program's Write. -/
namespace Go.Proofs.YtkhkcfbacnkcnaaGreatDoor
open Go.RowKit Go.MapKept
namespace Trk
open Tre (Nm Th fi isDirAt dirT goT goF setT dropT fileT addT zt datT wrT padT writeT)
open Pat (Txs)

theorem pad_take (l : List Nat) (a k : Nat) : (l ++ List.replicate (a + k - l.length) 0).take a = (l ++ List.replicate (a - l.length) 0).take a := by
  rw [List.take_append, List.take_append, List.take_replicate, List.take_replicate]
  congr 2
  omega
theorem pad_drop (l : List Nat) (a k : Nat) : (l ++ List.replicate (a + k - l.length) 0).drop (a + k) = l.drop (a + k) := by
  rw [List.drop_append, List.drop_replicate]
  simp
theorem padT_nat (s : ByteArray) (a : Nat) : Crc.tx (padT s (a : Int)) = Crc.tx s ++ List.replicate (a - s.size) 0 := by
  unfold Tre.padT
  by_cases h : (s.size : Int) < (a : Int)
  · rw [if_pos h, tx_app, show ((a : Int) - s.size).toNat = a - s.size by omega, tx_zt]
  · rw [if_neg h, show a - s.size = 0 by omega]
    simp
theorem ovr_wr {s : ByteArray} {a : Nat} {bs : List Nat} (hb : Crc.Byt bs) (h0 : bs ≠ []) : ovr s a bs = wrT s (a : Int) (Crc.str bs) := by
  apply Ent.tx_inj
  unfold ovr Tre.wrT
  rw [if_neg h0, Crc.tx_str (ovl_byt (tx_byt _) hb), tx_app, tx_app, Crc.tx_str hb, Ent.tx_extract, padT_nat]
  have hps : (padT s (a : Int)).size = max s.size a := by
    rw [← Crc.tx_len, padT_nat, List.length_append, Crc.tx_len, List.length_replicate]
    omega
  have hd : Crc.tx (if (a : Int) + ((Crc.str bs).size : Int) < ((padT s (a : Int)).size : Int) then (padT s (a : Int)).extract ((a : Int).toNat + (Crc.str bs).size) (padT s (a : Int)).size else ⟨#[]⟩) = (Crc.tx s).drop (a + bs.length) := by
    rw [Crc.str_size, hps, show (a : Int).toNat = a from rfl]
    by_cases h : (a : Int) + (bs.length : Int) < ((max s.size a : Nat) : Int)
    · rw [if_pos h, Ent.tx_extract, padT_nat]
      have e : a - s.size = 0 := by omega
      rw [e, List.replicate_zero, List.append_nil]
      exact List.take_of_length_le (by rw [List.length_drop, Crc.tx_len]; omega)
    · rw [if_neg h]
      exact (List.drop_of_length_le (by rw [Crc.tx_len]; omega)).symm
  rw [hd]
  unfold ovl
  rw [tx_pad, ← Crc.tx_len s, pad_take, pad_drop]
  simp
theorem fileT_file {t : List Th} {p : ByteArray} {n : Nm} {i : Nat} {s : ByteArray} (h : IsFile t p n i s) : datT t (fileT t p).1.toNat = s ∧ (fileT t p).1.toNat = i ∧ (fileT t p).2 = 0 := by
  rw [h.file]
  refine ⟨?_, rfl, rfl⟩
  obtain ⟨hi, h2⟩ := T_fi h.ne h.fi
  rw [h.at'] at h2
  injection h2 with h2
  show datT t i = s
  unfold Tre.datT
  rw [List.getElem?_eq_getElem hi]
  exact (congrArg Prod.snd h2).symm
theorem Wf.fsize {t : List Th} (h : Wf t) {n : Nm} {d : Bool} {s : ByteArray} (hv : T t n = some (d, s)) : s.size ≤ 268435456 := by
  by_cases h0 : n = []
  · rw [h0, T_root] at hv
    injection hv with hv
    injection hv with _ hv
    rw [← hv]
    decide
  · exact h.size _ (T_mem h0 hv)

set_option maxRecDepth 100000 in
set_option maxHeartbeats 1000000 in
theorem wr_any (w : World) (N b0 : Nat) (t : List Th) (L : Nm → Nd) (p : ByteArray) (x : Int) (m c : Nat) (B : Option Addr) (bs : List Nat) (hM : Mem w N t L) (hb : (L []).b = b0) (hW : Wf t) (hp : p.size < 4294967281)
    (hm : bs.length = m) (hml : m ≤ 1000000) (hB : Crc.Bts w B bs) (hap : ∀ ad, B = some ad → bs ≠ [] → ¬ Fp t L ad.block) :
    Calls Tryz.prog 32 #[.pointer (some ⟨b0, 0, none⟩), .string p, .int .i64 x, .slice B m c] w fun e w' => e = .returned (.int .i64 (writeT t p x (Crc.str bs)).2) ∧ TrkR w N t L (writeT t p x (Crc.str bs)).1 w' := by
  have HM := Lib.hid hM
  have HB := Lib.hid hB
  have HAP := Lib.hid hap
  have HL := Lib.hid hm
  have hbz : (Crc.str bs).size = m := by rw [Crc.str_size, hm]
  have HZ0 := Lib.hid (show writeT t p x (Crc.str bs) = if (fileT t p).2 ≠ 0 then (t, (fileT t p).2) else if x < 0 ∨ 268435456 < x ∨ 268435456 < x + (m : Int) then (t, 9) else if m = 0 then (t, 0) else (setT t (fileT t p).1.toNat (wrT (datT t (fileT t p).1.toNat) x (Crc.str bs)), 0) by
    unfold Tre.writeT
    rw [hbz])
  clear hM hB hap hm hbz
  go_enter Tryz.func32, Tryz.ntmps32
  go_wp2_with fail
  refine (fileAt_any w N b0 t L p HM.out hb hp).mono ?_
  rintro e w1 ⟨hf, hb1⟩
  have HB1 := Lib.hid hb1
  have HM1 := Lib.hid (HM.out.keep hb1)
  clear hb1
  rcases hf with ⟨he, rfl⟩ | ⟨n, i, s, hf, rfl⟩
  · have HZ := Lib.hid (show writeT t p x (Crc.str bs) = (t, (fileT t p).2) by rw [HZ0.out, if_pos he])
    generalize hg : (fileT t p).2 = g at *
    clear hg
    go_wp2
    refine bodyPost_ret (v := .int .i64 g) ?_ rfl ⟨by rw [HZ.out], by rw [HZ.out]; exact TrkR.same HM.out HB1.out⟩
    simp [results, Tryz.results32, go_sem]
  · obtain ⟨f1, f2, f3⟩ := fileT_file hf
    have HF := Lib.hid hf
    have HZ1 := Lib.hid (show writeT t p x (Crc.str bs) = if x < 0 ∨ 268435456 < x ∨ 268435456 < x + (m : Int) then (t, 9) else if m = 0 then (t, 0) else (setT t i (wrT s x (Crc.str bs)), 0) by rw [HZ0.out, if_neg (fun h => h f3), f1, f2])
    clear f1 f2 f3 hf
    by_cases hx : x < 0 ∨ 268435456 < x ∨ 268435456 < x + (m : Int)
    · have HZ := Lib.hid (HZ1.out.trans (if_pos hx))
      by_cases hx0 : x < 0
      · clear hx
        go_wp2
        refine bodyPost_ret (v := .int .i64 9) ?_ rfl ⟨by rw [HZ.out], by rw [HZ.out]; exact TrkR.same HM.out HB1.out⟩
        simp [results, Tryz.results32, go_sem]
      · have hx1 : 268435456 - (m : Int) < x := by omega
        clear hx
        go_wp2
        refine bodyPost_ret (v := .int .i64 9) ?_ rfl ⟨by rw [HZ.out], by rw [HZ.out]; exact TrkR.same HM.out HB1.out⟩
        simp [results, Tryz.results32, go_sem]
    · obtain ⟨a, rfl⟩ : ∃ a : Nat, x = (a : Int) := ⟨x.toNat, by omega⟩
      have hx0 : ¬ (a : Int) < 0 := by omega
      have hx1 : ¬ 268435456 - (m : Int) < (a : Int) := by omega
      have hx2 : a + m ≤ 268435456 := by omega
      have HZ := Lib.hid (HZ1.out.trans (if_neg hx))
      have HN := Lib.hid (HM1.out.nod _ _ _ HF.out.at')
      have HTW := Lib.hid (twrite_any w1 N (L n) (kb t L n) false s a m c B bs HN.out (HM1.out.one _ _ HF.out.at') (hW.fsize HF.out.at') HL.out hx2 (HB.out.keep HB1.out) (fun ad e h0 h => HAP.out ad e h0 ⟨n, _, HF.out.at', h⟩))
      clear hx
      generalize hy : L n = y at *
      go_wp2_with fail
      refine HTW.out.mono ?_
      rintro e w2 ⟨rfl, hr⟩
      have HR := Lib.hid (show TrkR w N t L (writeT t p (a : Int) (Crc.str bs)).1 w2 from by
        rw [← hy] at hr
        refine TrkR.after HB1.out ?_
        rw [HZ.out]
        by_cases h0 : m = 0
        · have hb0 : bs = [] := List.eq_nil_of_length_eq_zero (by rw [HL.out]; exact h0)
          rw [if_pos h0]
          unfold ovr at hr
          rw [if_pos hb0] at hr
          obtain ⟨A', c', q1, q2, q3⟩ := HM1.out.dat HF.out.at' (t' := t) (s' := s) (fun k => by
            by_cases e : k = n
            · rw [if_pos e, e, HF.out.at']
            · rw [if_neg e]) hr
          exact ⟨q2, _, q1.mono (Nat.le_succ N), Ld_b, q3⟩
        · have hb0 : bs ≠ [] := fun e => h0 (by rw [← HL.out, e]; rfl)
          rw [if_neg h0]
          rw [ovr_wr HB.out.byt hb0] at hr
          obtain ⟨A', c', q1, q2, q3⟩ := HM1.out.dat HF.out.at' (t' := setT t i (wrT s (a : Int) (Crc.str bs))) (T_set HF.out.ne HF.out.fi HF.out.at' _) hr
          exact ⟨q2, _, q1.mono (Nat.le_succ N), Ld_b, q3⟩)
      have HZ2 := Lib.hid (show (writeT t p (a : Int) (Crc.str bs)).2 = 0 by rw [HZ.out]; split <;> rfl)
      clear hr
      go_wp2
      refine bodyPost_ret (v := .int .i64 0) ?_ rfl ⟨by rw [HZ2.out], HR.out⟩
      simp [results, Tryz.results32, go_sem]
end Trk
end Go.Proofs.YtkhkcfbacnkcnaaGreatDoor
/- The program's copy of bytes; what it reads. -/
namespace Go.Proofs.YtkhkcfbacnkcnaaGreatDoor
open Go.RowKit Go.MapKept
namespace Trk
open Tre (Nm Th fi isDirAt dirT goT goF setT dropT fileT addT zt datT wrT padT writeT rdT readT)
open Pat (Txs)

theorem bts_empty (w : World) (A : Option Addr) : Crc.Bts w A [] := ⟨fun _ h => by simp at h, by simp, fun j h => by simp at h⟩
theorem bts_sub {w : World} {g : Nat} {l : List Nat} (h : Crc.Bts w (some ⟨g, 0, none⟩) l) (a k : Nat) : Crc.Bts w (some ⟨g, a, none⟩) ((l.drop a).take k) := by
  refine ⟨fun b hb => h.byt b (List.mem_of_mem_drop (List.mem_of_mem_take hb)), ?_, fun j hj => ?_⟩
  · have := h.len
    rw [List.length_take, List.length_drop]
    omega
  · have hj' : a + j < l.length := by rw [List.length_take, List.length_drop] at hj; omega
    obtain ⟨b, o, e, hlt, hc⟩ := h.at' (a + j) hj'
    injection e with e
    injection e with e1 e2
    subst e1 e2
    refine ⟨g, a, rfl, hlt, ?_⟩
    rw [show a + j = 0 + (a + j) by omega, hc]
    simp

theorem news_bts {W : World} {ad : Addr} {l : List Nat} (h : Crc.Bts W (some ad) l) : ∀ j u, (Crc.u8s l)[j]? = some u → W.cell? (ad.add j) = some u := by
  intro j u hu
  have hj : j < l.length := by
    have := (List.getElem?_eq_some_iff.1 hu).1
    simpa [Crc.u8s] using this
  obtain ⟨b, o, e, _, hc⟩ := h.at' j hj
  injection e with e
  subst e
  rw [Go.WideShapes.add_plain, hc, ← hu]
  simp [Crc.u8s, List.getElem?_eq_getElem hj]
theorem run_copy_own {W : World} {ad : Addr} {l : List Nat} (n c : Nat) (h : Crc.Bts W (some ad) l) (hn : l.length = n) (hl : n ≤ 268435456) :
    ∃ (G : Option Addr) (gc : Nat) (w' : World), (Builtin.append_ #[30, 30] 30 #[.slice (some ⟨W.heap.size, 0, none⟩) 0 0, .slice (some ad) n c]).run Tryz.prog (W.alloc (.cells #[] 5)) = .ok (.slice G n gc) w' ∧ w'.ownsRow W.heap.size 5 1 (.slice G n gc) n (Crc.u8s l) ∧ Below W.heap.size W w' := by
  obtain ⟨i0, hi0, hz0, hz1, hz2⟩ := info_parts Crc.u8_info
  have hown : (W.alloc (.cells #[] 5)).ownsRow W.heap.size 5 1 (.slice (some ⟨W.heap.size, 0, none⟩) 0 0) 0 [] := World.ownsRow_made W #[] 0 (Nat.le_refl _) (by unfold maxLen; omega) rfl
  have hb := (Below.refl W.heap.size W).alloc (Nat.le_refl _) (.cells #[] 5)
  obtain ⟨v', w', hr, h2, h3, _, _⟩ := run_append_own_at (P := Tryz.prog) (W.alloc (.cells #[] 5)) W.heap.size 30 30 5 i0 (.int .u8 0) 1 1 Tryz.underlying30 hi0 hz0 hz1 hz2 rfl (by decide) _ 0 [] hown ad n c (Crc.u8s l) (by simp [Crc.u8s, hn]) (news_bts (h.alloc _)) (Crc.u8s_one l) (by unfold maxLen; omega) (by omega) (by simp)
  rw [Nat.zero_add, List.nil_append] at h2
  obtain ⟨G, gc, rfl⟩ := Crc.row_slice h2
  exact ⟨G, gc, w', hr, h2, hb.grown h3 (by simp) (fun k hk => Crc.row_base_lt hown hk)⟩

/-- new bytes that are answered -/
def NewR (w : World) (l : List Nat) (e : Ending) (w' : World) : Prop := ∃ G gc, e = .returned (.slice G l.length gc) ∧ w'.ownsRow w.heap.size 5 1 (.slice G l.length gc) l.length (Crc.u8s l) ∧ Below w.heap.size w w'
set_option maxRecDepth 100000 in
set_option maxHeartbeats 1000000 in
theorem bclone_any (w : World) (A : Option Addr) (n c : Nat) (l : List Nat) (h : Crc.Bts w A l) (hn : l.length = n) (hl : n ≤ 268435456) :
    Calls Tryz.prog 57 #[.slice A n c] w (NewR w l) := by
  have hnil : ∀ W a n c, (binOp .eql 30 (.slice a n c) (.slice none 0 0)).run Tryz.prog W = .ok (.bool a.isNone) W := fun W a n c => by
    exact Lib.run_eql_slice_nil W _ _ a n c 0 0 Tryz.underlying30
  cases A with
  | none =>
    have hl0 : l = [] := by
      cases l with
      | nil => rfl
      | cons b l =>
        obtain ⟨_, _, e, _⟩ := h.at' 0 (by simp)
        cases e
    subst hl0
    have HR := Lib.hid (show NewR w [] (.returned (.slice none 0 0)) w from ⟨none, 0, rfl, World.ownsRow_nil _ _ _ _, Below.refl _ _⟩)
    clear h hn
    go_enter Tryz.func57, Tryz.ntmps57
    go_wp2
    go_ret
    exact HR.out
  | some ad =>
    obtain ⟨G, gc, w', hap, ho, hb⟩ := run_copy_own n c h hn hl
    have HR := Lib.hid (show NewR w l (.returned (.slice G n gc)) w' from ⟨G, gc, by rw [hn], by rw [hn]; exact ho, hb⟩)
    have HAP := Lib.hid hap
    clear h hn ho hb hap
    go_enter Tryz.func57, Tryz.ntmps57
    go_wp2_with (at_builtin; refine Pat.wpList_append_run rfl (.tmp 5) (.tmp 6) 30 rfl _ _ _ rfl rfl HAP.out ?_)
    go_ret
    exact HR.out

theorem NewR.drewN {w w' : World} {l : List Nat} {e : Ending} {j : Nat} (h : NewR (w.drewN j) l e w') : NewR w l e w' := by
  obtain ⟨G, gc, h1, h2, h3⟩ := h
  exact ⟨G, gc, h1, h2, ⟨h3.os, h3.tape, h3.output, h3.size, h3.block⟩⟩
theorem own_low {w : World} {B B' n : Nat} {t : TypeId} {v : Value} {xs : List Value} (h : w.ownsRow B t 1 v n xs) (hB : B' ≤ B) : w.ownsRow B' t 1 v n xs := by
  rcases h with ⟨h1, h2⟩
  refine ⟨h1, ?_⟩
  rcases h2 with h0 | ⟨g, cap, cur, e, hg, hr⟩
  · exact .inl h0
  · exact .inr ⟨g, cap, cur, e, Nat.le_trans hB hg, hr⟩
/-- what is read -/
def rdl (l : List Nat) (a k : Nat) : List Nat := (l.drop a).take k
set_option maxRecDepth 100000 in
set_option maxHeartbeats 1000000 in
theorem tread_any (w : World) (N : Nat) (x : Nd) (f : ByteArray → Option Nat) (d : Bool) (s : ByteArray) (a k : Nat) (h : Nod w N x f d s) (hs : s.size ≤ 268435456) (ha : a ≤ 9223372036854775807) (hk : k ≤ 9223372036854775807) :
    Calls Tryz.prog 69 #[.pointer (some ⟨x.b, 0, none⟩), .int .i64 (a : Int), .int .i64 (k : Int)] w (NewR w (rdl (Crc.tx s) a k)) := by
  have hc1 := h.c1
  obtain ⟨n, hn⟩ : ∃ n, n = s.size := ⟨_, rfl⟩
  have hrow := h.row
  have hB := Crc.own_bts h.row (tx_byt s) (by omega)
  have hlen := Crc.tx_len s
  rw [← hn] at hc1 hrow hlen hs
  generalize Crc.tx s = l at *
  clear h hn
  cases hA : x.A with
  | none =>
    rw [hA] at hc1 hrow
    have hn0 : n = 0 ∧ x.c = 0 := by
      rcases hrow.2 with ⟨e, h⟩ | ⟨_, _, _, e, _⟩
      · simp only [Value.slice.injEq] at e
        exact ⟨h, e.2.2⟩
      · simp at e
    obtain ⟨rfl, hc0⟩ := hn0
    rw [hc0] at hc1
    have hl0 : l = [] := List.eq_nil_of_length_eq_zero hlen
    have HC := Lib.hid (fun j => bclone_any (w.drewN j) none 0 0 [] (bts_empty _ none) rfl (by omega))
    have HL := Lib.hid (show rdl l a k = [] by rw [hl0]; simp [rdl])
    clear hrow hB hl0 hlen
    have hmin : min (a : Int) 0 = 0 := by omega
    have hmin2 : min (k : Int) 0 = 0 := by omega
    go_enter Tryz.func69, Tryz.ntmps69
    go_wp2_with fail
    go_quiet (fail)
    go_wp2_with fail
    refine (HC.out _).mono ?_
    rintro e w' hr
    have HR := Lib.hid (HL.out ▸ hr.drewN : NewR w (rdl l a k) e w')
    clear hr
    obtain ⟨G, gc, rfl, _, _⟩ := HR.out
    go_wp2
    go_ret
    exact HR.out
  | some ad =>
    rw [hA] at hc1 hrow hB
    obtain ⟨g, rfl, hnc⟩ : ∃ g, ad = ⟨g, 0, none⟩ ∧ n ≤ x.c := by
      rcases hrow.2 with ⟨e, h⟩ | ⟨g, cap, cur, e, _, hh, h1, _, hq, _⟩
      · simp at e
      · simp only [Value.slice.injEq] at e
        obtain ⟨e1, _, e3⟩ := e
        injection e1 with e1
        rw [← e3] at h1
        exact ⟨g, e1, h1⟩
    obtain ⟨p, hp⟩ : ∃ p, p = min a n := ⟨_, rfl⟩
    obtain ⟨q, hq⟩ : ∃ q, q = min k (n - p) := ⟨_, rfl⟩
    have hmin : min (a : Int) (n : Int) = (p : Int) := by omega
    have hmin2 : min (k : Int) ((n - p : Nat) : Int) = (q : Int) := by omega
    have hpn : p ≤ n := by omega
    have hqn : q ≤ n - p := by omega
    have hrd : (l.drop p).take q = rdl l a k := by
      unfold rdl
      rw [hp, hq, hp]
      by_cases h : a ≤ n
      · rw [Nat.min_eq_left h]
        by_cases h' : k ≤ n - a
        · rw [Nat.min_eq_left h']
        · rw [Nat.min_eq_right (by omega), List.take_of_length_le (by rw [List.length_drop]; omega), List.take_of_length_le (by rw [List.length_drop]; omega)]
      · rw [show min k (n - min a n) = 0 by omega, List.take_zero, List.drop_of_length_le (show l.length ≤ a by omega), List.take_nil]
    have hql : (rdl l a k).length = q := by rw [← hrd, List.length_take, List.length_drop]; omega
    have HC1 := Lib.hid (fun j => bclone_any (w.drewN j) (some ⟨g, p, none⟩) q (x.c - p) (rdl l a k) (hrd ▸ bts_sub (w := w.drewN j) ⟨hB.byt, hB.len, hB.at'⟩ p q) hql (by omega))
    have HC2 := Lib.hid (fun (h : x.c ≤ p) j => bclone_any (w.drewN j) (some ⟨g, 0, none⟩) q 0 (rdl l a k) (by
      have : rdl l a k = [] := List.eq_nil_of_length_eq_zero (by omega)
      rw [this]
      exact bts_empty _ _) hql (by omega))
    clear hrow hB hlen hp hq hrd hql
    have fin : ∀ (e : Ending) (w' : World) (j : Nat), NewR (w.drewN j) (rdl l a k) e w' → NewR w (rdl l a k) e w' := fun e w' j h => h.drewN
    have FIN := Lib.hid fin
    clear fin
    go_enter Tryz.func69, Tryz.ntmps69
    go_wp2_with fail
    go_quiet (fail)
    go_wp2_with fail
    all_goals first
      | refine (HC1.out _).mono ?_
      | refine (HC2.out (by omega) _).mono ?_
    all_goals
      rintro e w' hr
      have HR := Lib.hid (FIN.out _ _ _ hr)
      clear hr
      obtain ⟨G, gc, rfl, _, _⟩ := HR.out
      go_wp2
      go_ret
      exact HR.out

set_option maxRecDepth 100000 in
set_option maxHeartbeats 1000000 in
theorem rd_any (w : World) (N b0 : Nat) (t : List Th) (L : Nm → Nd) (p : ByteArray) (x y : Int) (hM : Mem w N t L) (hb : (L []).b = b0) (hW : Wf t) (hp : p.size < 4294967281) (hx : x ≤ 9223372036854775807) (hy : y ≤ 9223372036854775807) :
    Calls Tryz.prog 34 #[.pointer (some ⟨b0, 0, none⟩), .string p, .int .i64 x, .int .i64 y] w fun e w' => ∃ (G : Option Addr) (n gc : Nat), e = .returned (.tuple #[.slice G n gc, .int .i64 (readT t p x y).2]) ∧ (Crc.tx (readT t p x y).1).length = n ∧ w'.ownsRow w.heap.size 5 1 (.slice G n gc) n (Crc.u8s (Crc.tx (readT t p x y).1)) ∧ Below w.heap.size w w' := by
  have HM := Lib.hid hM
  clear hM
  go_enter Tryz.func34, Tryz.ntmps34
  go_wp2_with fail
  refine (fileAt_any w N b0 t L p HM.out hb hp).mono ?_
  rintro e w1 ⟨hf, hb1⟩
  have HB1 := Lib.hid hb1
  have HM1 := Lib.hid (HM.out.keep hb1)
  clear hb1
  rcases hf with ⟨he, rfl⟩ | ⟨n, i, s, hf, rfl⟩
  · have HZ := Lib.hid (show readT t p x y = (⟨#[]⟩, (fileT t p).2) by unfold Tre.readT; rw [if_pos he])
    generalize hg : (fileT t p).2 = g at *
    clear hg
    go_wp2
    refine bodyPost_ret (v := .tuple #[.slice none 0 0, .int .i64 g]) ?_ rfl ⟨none, 0, 0, by rw [HZ.out], by rw [HZ.out]; rfl, by rw [HZ.out]; exact World.ownsRow_nil _ _ _ _, HB1.out⟩
    simp [results, Tryz.results34, go_sem]
  · obtain ⟨f1, f2, f3⟩ := fileT_file hf
    have HF := Lib.hid hf
    have HZ1 := Lib.hid (show readT t p x y = if x < 0 ∨ y < 0 then (⟨#[]⟩, 9) else (rdT s x y, 0) by unfold Tre.readT; rw [if_neg (fun h => h f3), f1])
    clear f1 f2 f3 hf
    by_cases hxy : x < 0 ∨ y < 0
    · have HZ := Lib.hid (HZ1.out.trans (if_pos hxy))
      by_cases hx0 : x < 0
      · clear hxy
        generalize L n = z at *
        go_wp2
        refine bodyPost_ret (v := .tuple #[.slice none 0 0, .int .i64 9]) ?_ rfl ⟨none, 0, 0, by rw [HZ.out], by rw [HZ.out]; rfl, by rw [HZ.out]; exact World.ownsRow_nil _ _ _ _, HB1.out⟩
        simp [results, Tryz.results34, go_sem]
      · have hy0 : y < 0 := by omega
        clear hxy
        generalize L n = z at *
        go_wp2
        refine bodyPost_ret (v := .tuple #[.slice none 0 0, .int .i64 9]) ?_ rfl ⟨none, 0, 0, by rw [HZ.out], by rw [HZ.out]; rfl, by rw [HZ.out]; exact World.ownsRow_nil _ _ _ _, HB1.out⟩
        simp [results, Tryz.results34, go_sem]
    · obtain ⟨a, rfl⟩ : ∃ a : Nat, x = (a : Int) := ⟨x.toNat, by omega⟩
      obtain ⟨k, rfl⟩ : ∃ k : Nat, y = (k : Int) := ⟨y.toNat, by omega⟩
      have hx0 : ¬ (a : Int) < 0 := by omega
      have hy0 : ¬ (k : Int) < 0 := by omega
      have HZ := Lib.hid (HZ1.out.trans (if_neg hxy))
      have HRD := Lib.hid (show Crc.tx (rdT s (a : Int) (k : Int)) = rdl (Crc.tx s) a k from by
        unfold Tre.rdT rdl
        have e1 : Crc.tx (s.extract (a : Int).toNat s.size) = (Crc.tx s).drop a := by
          rw [Ent.tx_extract]
          exact List.take_of_length_le (by rw [List.length_drop, Crc.tx_len]; exact Nat.le_refl _)
        have e2 : (s.extract (a : Int).toNat s.size).size = s.size - a := by
          rw [← Crc.tx_len, e1, List.length_drop, Crc.tx_len]
        by_cases h1 : (s.size : Int) ≤ (a : Int)
        · rw [if_pos h1, List.drop_of_length_le (by rw [Crc.tx_len]; omega), List.take_nil]
          rfl
        · rw [if_neg h1, e2]
          by_cases h2 : (k : Int) < ((s.size - a : Nat) : Int)
          · rw [if_pos h2, Ent.tx_extract, e1]
            rfl
          · rw [if_neg h2, e1]
            exact (List.take_of_length_le (by rw [List.length_drop, Crc.tx_len]; omega)).symm)
      have HN := Lib.hid (HM1.out.nod _ _ _ HF.out.at')
      have HTR := Lib.hid (tread_any w1 N (L n) (kb t L n) false s a k HN.out (hW.fsize HF.out.at') (by omega) (by omega))
      clear hxy
      generalize L n = z at *
      go_wp2_with fail
      refine HTR.out.mono ?_
      rintro e w2 ⟨G, gc, rfl, ho, hb2⟩
      obtain ⟨m, hm⟩ : ∃ m, m = (rdl (Crc.tx s) a k).length := ⟨_, rfl⟩
      rw [← hm] at ho ⊢
      have HO := Lib.hid ho
      have HMM := Lib.hid hm
      have HB2 := Lib.hid (HB1.out.trans (hb2.mono HB1.out.size))
      clear ho hb2 hm
      go_wp2
      refine bodyPost_ret (v := .tuple #[.slice G m gc, .int .i64 0]) ?_ rfl ⟨G, m, gc, by rw [HZ.out], by rw [HZ.out, HRD.out, HMM.out], by rw [HZ.out, HRD.out]; exact own_low HO.out HB1.out.size, HB2.out⟩
      simp [results, Tryz.results34, go_sem]
end Trk
end Go.Proofs.YtkhkcfbacnkcnaaGreatDoor
/- The program's tree, a thing fewer: drop, Unlink, Rmdir. -/
namespace Go.Proofs.YtkhkcfbacnkcnaaGreatDoor
open Go.RowKit Go.MapKept
namespace Trk
open Tre (Nm Th fi isDirAt dirT goT goF setT dropT fileT addT zt datT unlinkT rmdirT kidT kidL)
open Pat (Txs)

theorem wf_take {t : List Th} (hW : Wf t) {n : Nm} : ∀ (f k : Nat) (v : Bool × ByteArray), n.length - k = f → k ≤ n.length → T t (n.take k) = some v → ∀ j, j < k → ∃ s, T t (n.take j) = some (true, s)
  | f, 0, v, _, _, _, j, hj => absurd hj (Nat.not_lt_zero j)
  | f, k + 1, v, hf, hk, hv, j, hj => by
    have e : n.take (k + 1) = n.take k ++ [n[k]] := List.take_succ_eq_append_getElem (by omega)
    rw [e] at hv
    obtain ⟨s, hs⟩ := hW.up _ _ _ hv
    rcases Nat.lt_or_ge j k with h | h
    · exact wf_take hW (f + 1) k _ (by omega) (by omega) hs j h
    · obtain rfl : j = k := by omega
      exact ⟨s, hs⟩
theorem rest_wf {t : List Th} {n : Nm} (h : ∀ j, j < n.length → ∃ s, T t (n.take j) = some (true, s)) {v : Bool × ByteArray} (hv : T t n = some v) : ∀ (f k : Nat), n.length - k = f → k ≤ n.length → rest t n k true = 0
  | 0, k, hf, hk => by
    obtain rfl : k = n.length := by omega
    exact rest_end
  | f + 1, k, hf, hk => by
    rcases Nat.lt_or_ge (k + 1) n.length with hlt | hge
    · obtain ⟨s, hs⟩ := h (k + 1) hlt
      rw [rest_some (by omega) hs]
      exact rest_wf h hv f (k + 1) (by omega) (by omega)
    · have e : n.take (k + 1) = n := List.take_of_length_le hge
      rw [rest_some (by omega) (e.symm ▸ hv), show k + 1 = n.length by omega]
      exact rest_end
theorem Wf.go {t : List Th} (hW : Wf t) {n : Nm} {v : Bool × ByteArray} (hv : T t n = some v) : goT t n = 0 := by
  rw [goT_rest]
  exact rest_wf (fun j hj => wf_take hW 0 n.length v (by omega) (Nat.le_refl _) (by rw [List.take_length]; exact hv) j hj) hv n.length 0 (by omega) (by omega)
theorem Mem.drop {w w' : World} {N : Nat} {t : List Th} {L : Nm → Nd} (h : Mem w N t L) (hW : Wf t) {p : Nm} {nm : ByteArray} {s : ByteArray} {v : Bool × ByteArray} {i g : Nat} {D : DataW Unit} (hp : T t p = some (true, s)) (hn : T t (p ++ [nm]) = some v) (hi : fi t (p ++ [nm]) = some i)
    (hg : (L p).m = some g) (hA : Ask w' g N (fun x => if x = nm then none else kb t L p x) D) (hgr : w.grownBy w' (some g)) : Mem w' N (dropT t i) L ∧ Chg (Fp t L) w w' ∧ ∀ i', Fp (dropT t i) L i' → Fp t L i' := by
  have hT : ∀ q, T (dropT t i) q = if q = p ++ [nm] then none else T t q := T_drop hW.once (by simp) hi
  have hgp : g ∈ own (L p) := own_mem.2 (.inr (.inl hg))
  have hgF : Fp t L g := ⟨p, _, hp, hgp⟩
  refine ⟨?_, Chg.grown hgr hgF, ?_⟩
  · refine h.step (fun q => q = p ∨ q = p ++ [nm]) (Nat.le_refl N) (fun q hq => ?_) (fun q hq => rfl) (fun q u hu hq i' hi' => ?_) (fun q x u hu hq => ?_) (fun q d' s' hq hv => ?_) (fun q u hq hv => ?_) (fun q r u1 u2 hq hv hu hne' i' hi' => ?_)
    · rw [hT, if_neg (fun e => hq (.inr e))]
    · exact hgr.block i' (h.lt ⟨q, u, hu, hi'⟩) (fun e => by
        injection e with e
        exact h.apart q p u _ hu hp (fun e' => hq (.inl e')) i' hi' (e ▸ hgp))
    · unfold kb
      rw [hT, if_neg (app_ne (fun e => hq (.inl e)))]
    · rcases hq with rfl | rfl
      · rw [hT, if_neg (fun e => app_self e.symm), hp] at hv
        injection hv with hv
        injection hv with h1 h2
        subst h1 h2
        have hN := h.nod _ _ _ hp
        have ho := h.one _ _ hp
        have hbg : (L q).b ≠ g := fun e => by
          unfold own at ho
          rw [hg] at ho
          simp [e] at ho
        refine ⟨?_, ?_, ?_⟩
        · obtain ⟨ty, hb⟩ := hN.box
          exact ⟨ty, (hgr.block _ hN.blt (fun e => hbg (by injection e))).trans hb⟩
        · refine hN.row.kept hgr ?_
          cases hA' : (L q).A with
          | none => exact .inl rfl
          | some a =>
            refine .inr (fun e => ?_)
            have : a.block = g := by simpa [Value.ownBlock] using e
            unfold own at ho
            rw [hg, hA'] at ho
            simp [this] at ho
        · rw [hg]
          have hf : (fun x => if x = nm then none else kb t L q x) = kb (dropT t i) L q := by
            funext x
            unfold kb
            rw [hT]
            by_cases e : x = nm
            · subst e
              rw [if_pos rfl, if_pos rfl]
              rfl
            · rw [if_neg e, if_neg (fun e' => e (app_inj e'))]
          rw [← hf]
          exact ⟨D, hA⟩
      · rw [hT, if_pos rfl] at hv
        cases hv
    · rcases hq with rfl | rfl
      · exact h.one _ _ hp
      · rw [hT, if_pos rfl] at hv
        cases hv
    · rcases hq with rfl | rfl
      · rw [hT] at hu
        by_cases e : r = q ++ [nm]
        · rw [if_pos e] at hu
          cases hu
        · rw [if_neg e] at hu
          exact h.apart q r _ u2 hp hu (fun e => hne' e.symm) i' hi'
      · rw [hT, if_pos rfl] at hv
        cases hv
  · rintro i' ⟨q, u, hu, hi'⟩
    rw [hT] at hu
    by_cases e : q = p ++ [nm]
    · rw [if_pos e] at hu
      cases hu
    · rw [if_neg e] at hu
      exact ⟨q, u, hu, hi'⟩

set_option maxRecDepth 100000 in
set_option maxHeartbeats 1000000 in
theorem drop_any (w : World) (N b0 i : Nat) (t : List Th) (L : Nm → Nd) (p : ByteArray) (m : Nm) (s : ByteArray) (v : Bool × ByteArray) (hM : Mem w N t L) (hb : (L []).b = b0) (hW : Wf t) (hp : p.size < 4294967281)
    (hs : Pat.spl p = some (m ++ [s])) (hv : T t (m ++ [s]) = some v) (hi : fi t (m ++ [s]) = some i) :
    Calls Tryz.prog 68 #[.pointer (some ⟨b0, 0, none⟩), .string p] w fun e w' => e = .returned (.tuple #[]) ∧ TrkR w N t L (dropT t i) w' := by
  have HM := Lib.hid hM
  have HS := Lib.hid hs
  have HV := Lib.hid hv
  have HI := Lib.hid hi
  clear hM hs hv hi
  go_enter Tryz.func68, Tryz.ntmps68
  go_wp2_with fail
  refine (Pat.split_any w p hp).mono ?_
  rintro e w1 ⟨hb1, h1⟩
  have HB1 := Lib.hid hb1
  have HM1 := Lib.hid (HM.out.keep hb1)
  clear hb1
  rcases h1 with ⟨l, A, c, hs, rfl, hc, ht⟩ | ⟨hs, rfl⟩
  · obtain rfl : m ++ [s] = l := by rw [HS.out] at hs; injection hs
    have HIN := Lib.hid (spl_is hs)
    have HIm := Lib.hid (show Pat.IsNames m from ⟨by have := HIN.out.1; simp at this; omega, fun z hz => HIN.out.2 z (by simp [hz])⟩)
    have hss := right_len (HIN.out.2 s (by simp))
    have HT := Lib.hid ht
    obtain ⟨k, hk⟩ : ∃ k, k = m.length := ⟨_, rfl⟩
    obtain ⟨n, hn⟩ : ∃ n, n = (m ++ [s]).length := ⟨_, rfl⟩
    rw [← hn]
    have hml : k ≤ 1000000 := by have := HIm.out.1; omega
    have HPAR := Lib.hid (Pat.parent_yes w1 A c n k m s HT.out hk.symm (by rw [hn, hk]; simp) hml)
    have HKL := Lib.hid hk
    clear hs hc ht hn hk
    go_wp2_with fail
    refine HPAR.out.mono ?_
    rintro e w2 ⟨g, rfl, _, ho, hb2⟩
    have HB2 := Lib.hid (HB1.out.trans (hb2.mono HB1.out.size))
    have HM2 := Lib.hid (HM.out.keep HB2.out)
    have HO := Lib.hid (Pat.Own.txs ho (fun z hz => by have := (HIm.out.2 z hz).1.2; rw [Crc.tx_len] at this; omega) (by have := HKL.out; omega))
    have HFOL := Lib.hid (follow_any w2 N b0 k k t L (some ⟨g, 0, none⟩) m HM2.out hb HO.out HIm.out HKL.out.symm)
    clear ho hb2 HT HPAR
    go_wp2_with fail
    refine HFOL.out.mono ?_
    rintro e w3 ⟨rfl, rfl⟩
    obtain ⟨s', hup⟩ := hW.up _ _ _ HV.out
    have HUP := Lib.hid hup
    rw [gv_yes (hW.go hup), hW.go hup]
    unfold pv
    have HN := Lib.hid (HM2.out.nod _ _ _ hup)
    have hc2 := HN.out.c2
    have hkd := HN.out.map
    cases hm : (L m).m with
    | none =>
      rw [hm] at hkd
      have := hkd s
      unfold kb at this
      rw [HV.out] at this
      cases this
    | some q =>
      rw [hm] at hkd hc2
      obtain ⟨D, hD⟩ := hkd
      obtain ⟨w4, D', hdel, hA, hgr⟩ := hD.strike s hss 0
      have HR := Lib.hid (show TrkR w N t L (dropT t i) w4 from by
        obtain ⟨q1, q2, q3⟩ := HM2.out.drop hW HUP.out HV.out HI.out hm hA hgr
        exact TrkR.after HB2.out ⟨q2, L, q1.mono (Nat.le_succ N), rfl, fun i' hi' => .inl (q3 i' hi')⟩)
      clear hup hA hgr hD
      generalize L m = z at *
      go_wp2
      go_end0
      exact ⟨rfl, HR.out⟩
  · rw [HS.out] at hs
    cases hs
end Trk
end Go.Proofs.YtkhkcfbacnkcnaaGreatDoor
/- The program's Unlink, Rmdir. -/
namespace Go.Proofs.YtkhkcfbacnkcnaaGreatDoor
open Go.RowKit Go.MapKept
namespace Trk
open Tre (Nm Th fi isDirAt dirT goT goF setT dropT fileT addT zt datT unlinkT rmdirT kidT kidL fv)
open Pat (Txs)

theorem names_last {n : Nm} (h : n ≠ []) : ∃ m s, n = m ++ [s] := by
  rcases List.eq_nil_or_concat n with h' | ⟨m, s, h'⟩
  · exact absurd h' h
  · exact ⟨m, s, by rw [h', List.concat_eq_append]⟩

section
variable (w : World) (N b0 : Nat) (t : List Th) (L : Nm → Nd) (p : ByteArray) (hM : Mem w N t L) (hb : (L []).b = b0) (hW : Wf t) (hp : p.size < 4294967281)
include hM hb hW hp
set_option maxRecDepth 100000 in
set_option maxHeartbeats 1000000 in
theorem unlink_any : Calls Tryz.prog 43 #[.pointer (some ⟨b0, 0, none⟩), .string p] w fun e w' => e = .returned (.int .i64 (unlinkT t p).2) ∧ TrkR w N t L (unlinkT t p).1 w' := by
  have HM := Lib.hid hM
  clear hM
  go_enter Tryz.func43, Tryz.ntmps43
  go_wp2_with fail
  refine (fileAt_any w N b0 t L p HM.out hb hp).mono ?_
  rintro e w1 ⟨hf, hb1⟩
  have HB1 := Lib.hid hb1
  have HM1 := Lib.hid (HM.out.keep hb1)
  clear hb1
  rcases hf with ⟨he, rfl⟩ | ⟨n, i, s, hf, rfl⟩
  · have HZ := Lib.hid (show unlinkT t p = (t, (fileT t p).2) by unfold Tre.unlinkT; rw [if_pos he])
    generalize hg : (fileT t p).2 = g at *
    clear hg
    go_wp2
    refine bodyPost_ret (v := .int .i64 g) ?_ rfl ⟨by rw [HZ.out], by rw [HZ.out]; exact TrkR.same HM.out HB1.out⟩
    simp [results, Tryz.results43, go_sem]
  · obtain ⟨f1, f2, f3⟩ := fileT_file hf
    have HZ := Lib.hid (show unlinkT t p = (dropT t i, 0) by unfold Tre.unlinkT; rw [if_neg (fun h => h f3), f2])
    obtain ⟨m, z, rfl⟩ := names_last hf.ne
    have HD := Lib.hid (drop_any w1 N b0 i t L p m z _ HM1.out hb hW hp hf.spl hf.at' hf.fi)
    clear f1 f2 f3 hf
    generalize L (m ++ [z]) = y at *
    go_wp2_with fail
    refine HD.out.mono ?_
    rintro e w2 ⟨rfl, hr⟩
    have HR := Lib.hid (TrkR.after HB1.out hr)
    clear hr
    go_wp2
    refine bodyPost_ret (v := .int .i64 0) ?_ rfl ⟨by rw [HZ.out], by rw [HZ.out]; exact HR.out⟩
    simp [results, Tryz.results43, go_sem]
end

/-- a directory's names -/
theorem kidL_mem {t : List Th} (ht : Once t) {n : Nm} {x : ByteArray} : x ∈ kidL t n ↔ (T t (n ++ [x])).isSome = true := by
  unfold Tre.kidL
  rw [List.mem_map]
  constructor
  · rintro ⟨y, hy, rfl⟩
    obtain ⟨hy, hc⟩ := List.mem_filter.1 hy
    obtain ⟨h1, h2⟩ := of_decide_eq_true hc
    have e : n ++ [y.1.getD n.length ByteArray.empty] = y.1 := by
      rw [← h2]
      have hlt : n.length < y.1.length := by omega
      rw [List.getD_eq_getElem?_getD, List.length_take, Nat.min_eq_left (by omega), List.getElem?_eq_getElem hlt, Option.getD_some, ← List.take_succ_eq_append_getElem hlt, List.take_of_length_le (by omega)]
    rw [e, mem_T ht hy (fun h0 => by rw [h0] at h1; simp at h1)]
    rfl
  · intro h
    obtain ⟨v, hv⟩ := Option.isSome_iff_exists.1 h
    have hm := T_mem (by simp) hv
    refine ⟨_, List.mem_filter.2 ⟨hm, decide_eq_true (by simp)⟩, by simp⟩
theorem kidL_once {t : List Th} (ht : Once t) (n : Nm) : (kidL t n).Nodup := by
  unfold Tre.kidL
  refine List.pairwise_map.2 ?_
  have h1 : (t.filter fun x => decide (x.1.length = n.length + 1 ∧ x.1.take n.length = n)).Pairwise (fun x y => x.1 ≠ y.1) := (List.pairwise_map.1 ht).sublist List.filter_sublist
  refine h1.imp_of_mem fun {a b} ha hb hne e => hne ?_
  have key : ∀ y ∈ (t.filter fun x => decide (x.1.length = n.length + 1 ∧ x.1.take n.length = n)), y.1 = n ++ [y.1.getD n.length ByteArray.empty] := fun y hy => by
    obtain ⟨h1, h2⟩ := of_decide_eq_true (List.mem_filter.1 hy).2
    have hlt : n.length < y.1.length := by omega
    conv => rhs; rw [← h2]
    rw [List.getD_eq_getElem?_getD, List.length_take, Nat.min_eq_left (by omega), List.getElem?_eq_getElem hlt, Option.getD_some, ← List.take_succ_eq_append_getElem hlt, List.take_of_length_le (by omega)]
  rw [key a ha, key b hb, e]
theorem kid_size {t : List Th} (hW : Wf t) {n : Nm} {x : ByteArray} (h : (T t (n ++ [x])).isSome = true) : x.size ≤ maxLen := by
  obtain ⟨v, hv⟩ := Option.isSome_iff_exists.1 h
  have hm := T_mem (by simp) hv
  exact right_len ((hW.nm _ hm).2.2 x (by simp))
theorem kidT_len (t : List Th) (n : Nm) : (kidT t n).length = (kidL t n).length := by
  rw [Tre.kidT_eq]
  exact Tre.sorted_len _ _
/-- how many names a directory's map has -/
theorem Nod.kids {w : World} {N : Nat} {t : List Th} {L : Nm → Nd} {n : Nm} {d : Bool} {s : ByteArray} {x : Nd} (hW : Wf t) (h : Nod w N x (kb t L n) d s) (ty : TypeId) :
    (Builtin.len_ #[74] ty #[.map x.m]).run Tryz.prog w = .ok (.int .i64 ((kidL t n).length : Int)) w := by
  have hk := h.map
  cases hm : x.m with
  | none =>
    rw [hm] at hk
    have h0 : kidL t n = [] := by
      cases hl : kidL t n with
      | nil => rfl
      | cons y r =>
        have := (kidL_mem hW.once).1 (show y ∈ kidL t n by rw [hl]; simp)
        have hy := hk y
        unfold kb at hy
        cases hT : T t (n ++ [y]) with
        | none => rw [hT] at this; cases this
        | some v => rw [hT] at hy; cases hy
    rw [h0]
    exact Maps.len_nil Tryz.underlying74 ty
  | some g =>
    rw [hm] at hk
    obtain ⟨D, hD⟩ := hk
    obtain ⟨_, hsz⟩ := hD.keys (kidL_once hW.once n) (fun y => by rw [kidL_mem hW.once]; unfold kb; cases T t (n ++ [y]) <;> simp) (fun y hy => kid_size hW ((kidL_mem hW.once).1 hy))
    rw [← hsz]
    exact hD.own.len Tryz.underlying74 ty
end Trk
end Go.Proofs.YtkhkcfbacnkcnaaGreatDoor
/- The program's Rmdir. -/
namespace Go.Proofs.YtkhkcfbacnkcnaaGreatDoor
open Go.RowKit Go.MapKept
namespace Trk
open Tre (Nm Th fi isDirAt dirT goT goF setT dropT fileT addT zt datT unlinkT rmdirT kidT kidL fv)
open Pat (Txs)

theorem rmdirT_no {t : List Th} {p : ByteArray} (h : dirE t p ≠ 0) : rmdirT t p = (t, dirE t p) := by
  unfold dirE at h
  unfold dirE Tre.rmdirT
  cases hs : Pat.spl p with
  | none => rfl
  | some n =>
    rw [hs] at h
    simp only at h ⊢
    by_cases hg : goT t n ≠ 0
    · rw [if_pos hg, if_pos hg]
    · rw [if_neg hg] at h ⊢
      rw [if_neg hg]
      by_cases hd : dirT t n = false
      · rw [if_pos hd, if_pos hd]
      · rw [if_neg hd] at h
        exact absurd rfl h
theorem rmdirT_yes {t : List Th} {p : ByteArray} {n : Nm} {s : ByteArray} (h : IsDir t p n s) : rmdirT t p = if n = [] then (t, 1) else if 0 < (kidT t n).length then (t, 8) else (dropT t (fv t n).toNat, 0) := by
  unfold Tre.rmdirT
  rw [h.spl]
  simp only [h.go, h.dir]
  simp

theorem thing_size : (Tryz.prog.info? 76).map (fun i => i.size) = some 3 := by kernel_rfl
theorem eql_same (w : World) (b : Nat) : (binOp .eql 96 (.pointer (some ⟨b, 0, none⟩)) (.pointer (some ⟨b, 0, none⟩))).run Tryz.prog w = .ok (.bool true) w := by
  obtain ⟨j, hj, _⟩ := Option.map_eq_some_iff.1 thing_size
  exact run_eql_ptr_same w _ Tryz.underlying96 hj
theorem eql_other {w : World} {N N' : Nat} {x y : Nd} {f g : ByteArray → Option Nat} {d d' : Bool} {s s' : ByteArray} (h : Nod w N x f d s) (h' : Nod w N' y g d' s') (hne : x.b ≠ y.b) : (binOp .eql 96 (.pointer (some ⟨x.b, 0, none⟩)) (.pointer (some ⟨y.b, 0, none⟩))).run Tryz.prog w = .ok (.bool false) w := by
  obtain ⟨j, hj, hs⟩ := Option.map_eq_some_iff.1 thing_size
  obtain ⟨t1, h1⟩ := h.box
  obtain ⟨t2, h2⟩ := h'.box
  exact run_eql_ptr_other w Tryz.underlying96 hj (by rw [hs]; decide) (fun e => hne (by injection e)) h1 h2

set_option maxRecDepth 100000 in
set_option maxHeartbeats 1000000 in
theorem rmdir_any (w : World) (N b0 : Nat) (t : List Th) (L : Nm → Nd) (p : ByteArray) (hM : Mem w N t L) (hb : (L []).b = b0) (hW : Wf t) (hp : p.size < 4294967281) :
    Calls Tryz.prog 33 #[.pointer (some ⟨b0, 0, none⟩), .string p] w fun e w' => e = .returned (.int .i64 (rmdirT t p).2) ∧ TrkR w N t L (rmdirT t p).1 w' := by
  have HM := Lib.hid hM
  clear hM
  go_enter Tryz.func33, Tryz.ntmps33
  go_wp2_with fail
  refine (dirAt_any w N b0 t L p HM.out hb hp).mono ?_
  rintro e w1 ⟨hf, hb1⟩
  have HB1 := Lib.hid hb1
  have HM1 := Lib.hid (HM.out.keep hb1)
  clear hb1
  rcases hf with ⟨he, rfl⟩ | ⟨n, s, hf, rfl⟩
  · have HZ := Lib.hid (rmdirT_no he)
    generalize hg : dirE t p = g at *
    clear hg
    go_wp2
    refine bodyPost_ret (v := .int .i64 g) ?_ rfl ⟨by rw [HZ.out], by rw [HZ.out]; exact TrkR.same HM.out HB1.out⟩
    simp [results, Tryz.results33, go_sem]
  · have HF := Lib.hid hf
    have HZ1 := Lib.hid (rmdirT_yes hf)
    have HN := Lib.hid (HM1.out.nod _ _ _ hf.at')
    have hc2 := HN.out.c2
    clear hf
    by_cases h0 : n = []
    · have HZ := Lib.hid (HZ1.out.trans (if_pos h0))
      have heq : (binOp .eql 96 (.pointer (some ⟨(L n).b, 0, none⟩)) (.pointer (some ⟨b0, 0, none⟩))).run Tryz.prog w1 = .ok (.bool true) w1 := by
        rw [show (L n).b = b0 by rw [h0, hb]]
        exact eql_same w1 b0
      clear h0
      generalize hy : L n = y at *
      go_wp2
      refine bodyPost_ret (v := .int .i64 1) ?_ rfl ⟨by rw [HZ.out], by rw [HZ.out]; exact TrkR.same HM.out HB1.out⟩
      simp [results, Tryz.results33, go_sem]
    · have HZ2 := Lib.hid (HZ1.out.trans (if_neg h0))
      have hbb : (L n).b ≠ b0 := fun e => by
        rw [← hb] at e
        exact HM1.out.apart n [] _ _ HF.out.at' (T_root t) h0 _ (own_mem.2 (.inl rfl)) (own_mem.2 (.inl e))
      have heq : (binOp .eql 96 (.pointer (some ⟨(L n).b, 0, none⟩)) (.pointer (some ⟨b0, 0, none⟩))).run Tryz.prog w1 = .ok (.bool false) w1 := by
        rw [← hb] at hbb ⊢
        exact eql_other HN.out (HM1.out.nod _ _ _ (T_root t)) hbb
      have hlen := HN.out.kids hW
      have HK := Lib.hid (kidT_len t n)
      obtain ⟨m, z, rfl⟩ := names_last h0
      obtain ⟨i, hi⟩ := fi_of_T h0 HF.out.at'
      have HD := Lib.hid (drop_any w1 N b0 i t L p m z _ HM1.out hb hW hp HF.out.spl HF.out.at' hi)
      have HFV := Lib.hid (show (fv t (m ++ [z])).toNat = i by unfold Tre.fv; rw [hi]; rfl)
      clear h0 hi
      generalize hn : m ++ [z] = n at *
      generalize hy : L n = y at *
      generalize hk : (kidL t n).length = k at *
      by_cases hk0 : 0 < k
      · have HZ := Lib.hid (HZ2.out.trans (if_pos (by rw [HK.out]; exact hk0)))
        go_wp2
        refine bodyPost_ret (v := .int .i64 8) ?_ rfl ⟨by rw [HZ.out], by rw [HZ.out]; exact TrkR.same HM.out HB1.out⟩
        simp [results, Tryz.results33, go_sem]
      · have HZ := Lib.hid (HZ2.out.trans (if_neg (by rw [HK.out]; exact hk0)))
        go_wp2_with fail
        refine HD.out.mono ?_
        rintro e w2 ⟨rfl, hr⟩
        have HR := Lib.hid (TrkR.after HB1.out hr)
        clear hr
        go_wp2
        refine bodyPost_ret (v := .int .i64 0) ?_ rfl ⟨by rw [HZ.out], by rw [HZ.out, HFV.out]; exact HR.out⟩
        simp [results, Tryz.results33, go_sem]
end Trk
end Go.Proofs.YtkhkcfbacnkcnaaGreatDoor
/- Each deed leaves a tree in which each thing has its directory. -/
namespace Go.Proofs.YtkhkcfbacnkcnaaGreatDoor
open Go.RowKit Go.MapKept
namespace Trk
open Tre (Nm Th fi isDirAt dirT goT goF setT dropT fileT addT zt datT unlinkT rmdirT kidT kidL fv writeT wrT truncT)
open Pat (Txs)

theorem Wf.added {t : List Th} (hW : Wf t) {n : Nm} {d : Bool} (h0 : n ≠ []) (hI : Pat.IsNames n) (hn : T t n = none) (hup : ∃ s, T t (n.take (n.length - 1)) = some (true, s)) : Wf (t ++ [(n, d, ByteArray.empty)]) := by
  obtain ⟨_, hfi⟩ := T_no hn
  have hT : ∀ q, T (t ++ [(n, d, ByteArray.empty)]) q = if q = n then some (d, ByteArray.empty) else T t q := T_app (x := (n, d, ByteArray.empty)) h0 hfi
  have hnm : ∀ x ∈ t, x.1 ≠ n := fun x hx e => by
    obtain ⟨i, hi⟩ := fi_mem hx
    rw [e, hfi] at hi
    cases hi
  refine ⟨?_, fun x hx => ?_, fun p x v hv => ?_, fun p s hp => ?_, fun x hx => ?_⟩
  · unfold Once
    rw [List.map_append, List.nodup_append]
    refine ⟨hW.once, by simp, fun a ha b hb e => ?_⟩
    obtain ⟨x, hx, rfl⟩ := List.mem_map.1 ha
    have hb : b = n := by simpa using hb
    exact hnm x hx (e.trans hb)
  · rcases List.mem_append.1 hx with hx | hx
    · exact hW.nm x hx
    · obtain rfl : x = (n, d, ByteArray.empty) := by simpa using hx
      exact ⟨h0, hI⟩
  · rw [hT] at hv
    by_cases e : p ++ [x] = n
    · have ep : n.take (n.length - 1) = p := by rw [← e]; simp
      rw [ep] at hup
      obtain ⟨s, hs⟩ := hup
      refine ⟨s, ?_⟩
      rw [hT, if_neg (fun e' => app_self (x := x) (e.trans e'.symm)), hs]
    · rw [if_neg e] at hv
      obtain ⟨s, hs⟩ := hW.up _ _ _ hv
      refine ⟨s, ?_⟩
      rw [hT, if_neg (fun e' => by rw [e', hn] at hs; cases hs), hs]
  · rw [hT] at hp
    by_cases e : p = n
    · rw [if_pos e] at hp
      injection hp with hp
      injection hp with _ hp
      exact hp.symm
    · rw [if_neg e] at hp
      exact hW.dat p s hp
  · rcases List.mem_append.1 hx with hx | hx
    · exact hW.size x hx
    · obtain rfl : x = (n, d, ByteArray.empty) := by simpa using hx
      show ByteArray.empty.size ≤ 268435456
      decide
theorem Wf.add {t : List Th} (hW : Wf t) (p : ByteArray) (d : Bool) : Wf (addT t p d).1 := by
  cases hs : Pat.spl p with
  | none => rw [Tre.addT_none hs]; exact hW
  | some n =>
    by_cases h0 : n = []
    · rw [h0] at hs
      rw [Tre.addT_root hs]; exact hW
    · by_cases hg : goT t (n.take (n.length - 1)) = 0
      · obtain ⟨v, hv⟩ := goT_some hg
        have hd := dirT_T hv
        cases hv1 : v.1 with
        | false => rw [Tre.addT_file hs h0 hg (hd.trans hv1)]; exact hW
        | true =>
          cases hf : fi t n with
          | some i => rw [Tre.addT_there hs h0 hg (hd.trans hv1) hf]; exact hW
          | none =>
            rw [Tre.addT_yes hs h0 hg (hd.trans hv1) hf]
            exact hW.added h0 (spl_is hs) (T_none h0 hf) ⟨v.2, by rw [hv, ← hv1]⟩
      · rw [Tre.addT_go hs h0 hg]; exact hW
theorem Wf.set {t : List Th} (hW : Wf t) {n : Nm} {i : Nat} {s u : ByteArray} (h0 : n ≠ []) (hi : fi t n = some i) (hv : T t n = some (false, s)) (hu : u.size ≤ 268435456) : Wf (setT t i u) := by
  have hT := T_set h0 hi hv u
  refine ⟨?_, fun x hx => ?_, fun p x v hv' => ?_, fun p s' hp => ?_, fun x hx => ?_⟩
  · unfold Once
    rw [setT_names]
    exact hW.once
  · have : x.1 ∈ t.map (·.1) := by
      rw [← setT_names t i u]
      exact List.mem_map.2 ⟨x, hx, rfl⟩
    obtain ⟨y, hy, e⟩ := List.mem_map.1 this
    rw [← e]
    exact hW.nm y hy
  · rw [hT] at hv'
    have key : ∃ s, T t p = some (true, s) := by
      by_cases e : p ++ [x] = n
      · rw [← e] at hv
        exact hW.up _ _ _ hv
      · rw [if_neg e] at hv'
        exact hW.up _ _ _ hv'
    obtain ⟨s', hs'⟩ := key
    refine ⟨s', ?_⟩
    rw [hT, if_neg (fun e => by rw [e, hv] at hs'; cases hs'), hs']
  · rw [hT] at hp
    by_cases e : p = n
    · rw [if_pos e] at hp
      cases hp
    · rw [if_neg e] at hp
      exact hW.dat p s' hp
  · obtain ⟨j, hj⟩ := List.getElem?_of_mem hx
    rw [setT_at] at hj
    cases hy : t[j]? with
    | none => rw [hy] at hj; cases hj
    | some y =>
      rw [hy] at hj
      simp only [Option.map_some, Option.some.injEq] at hj
      rw [← hj]
      split
      · exact hu
      · exact hW.size y (List.mem_of_getElem? hy)
theorem Wf.drop {t : List Th} (hW : Wf t) {n : Nm} {i : Nat} (h0 : n ≠ []) (hi : fi t n = some i) (hk : ∀ x, T t (n ++ [x]) = none) : Wf (dropT t i) := by
  have hT := T_drop hW.once h0 hi
  obtain ⟨h1, _, _⟩ := Tre.fi_some hi
  refine ⟨once_drop hW.once i, fun x hx => hW.nm x ((mem_drop hW.once h1 x).1 hx).1, fun p x v hv => ?_, fun p s hp => ?_, fun x hx => hW.size x ((mem_drop hW.once h1 x).1 hx).1⟩
  · rw [hT] at hv
    by_cases e : p ++ [x] = n
    · rw [if_pos e] at hv
      cases hv
    · rw [if_neg e] at hv
      obtain ⟨s, hs⟩ := hW.up _ _ _ hv
      refine ⟨s, ?_⟩
      rw [hT, if_neg (fun e' => by rw [e', hk x] at hv; cases hv), hs]
  · rw [hT] at hp
    by_cases e : p = n
    · rw [if_pos e] at hp
      cases hp
    · rw [if_neg e] at hp
      exact hW.dat p s hp
theorem Wf.leaf {t : List Th} (hW : Wf t) {n : Nm} {s : ByteArray} (h : T t n = some (false, s)) (x : ByteArray) : T t (n ++ [x]) = none := by
  cases hv : T t (n ++ [x]) with
  | none => rfl
  | some v =>
    obtain ⟨s', hs'⟩ := hW.up _ _ _ hv
    rw [h] at hs'
    cases hs'
theorem file_yes {t : List Th} {p : ByteArray} (h : (fileT t p).2 = 0) : ∃ n i s, IsFile t p n i s := by
  by_cases hg : ge t p = 0
  · obtain ⟨n, ⟨d, s⟩, hs, hn, hv, _⟩ := ge_yes (L := fun _ => ⟨0, none, 0, none⟩) hg
    cases d with
    | true => rw [no_file hs hn hv] at h; cases h
    | false =>
      obtain ⟨i, hi⟩ := is_file hs hn hv
      exact ⟨n, i, s, hi⟩
  · rw [(ge_no (L := fun _ => ⟨0, none, 0, none⟩) hg).2] at h
    exact absurd h hg
theorem ovr_size {s : ByteArray} {a : Nat} {bs : List Nat} (h0 : bs ≠ []) : (ovr s a bs).size = max s.size (a + bs.length) := by
  unfold ovr
  have hp : (pad s (a + bs.length)).size = max s.size (a + bs.length) := by
    by_cases h : s.size ≤ a + bs.length
    · rw [pad_size h]; omega
    · rw [pad_none (by omega)]; omega
  rw [if_neg h0, Crc.str_size, ovl_len (by rw [Crc.tx_len, hp]; omega), Crc.tx_len, hp]
theorem Wf.write {t : List Th} (hW : Wf t) (p : ByteArray) (x : Int) {bs : List Nat} (hb : Crc.Byt bs) : Wf (writeT t p x (Crc.str bs)).1 := by
  unfold Tre.writeT
  by_cases he : (fileT t p).2 ≠ 0
  · rw [if_pos he]; exact hW
  · rw [if_neg he]
    obtain ⟨n, i, s, hf⟩ := file_yes (by simpa using he)
    obtain ⟨f1, f2, _⟩ := fileT_file hf
    rw [f1, f2]
    by_cases hx : x < 0 ∨ 268435456 < x ∨ 268435456 < x + ((Crc.str bs).size : Int)
    · rw [if_pos hx]; exact hW
    · rw [if_neg hx]
      by_cases h0 : (Crc.str bs).size = 0
      · rw [if_pos h0]; exact hW
      · rw [if_neg h0]
        have hb0 : bs ≠ [] := fun e => h0 (by rw [e]; rfl)
        obtain ⟨a, rfl⟩ : ∃ a : Nat, x = (a : Int) := ⟨x.toNat, by omega⟩
        rw [← ovr_wr hb hb0]
        refine hW.set hf.ne hf.fi hf.at' ?_
        rw [ovr_size hb0]
        rw [Crc.str_size] at hx
        have := hW.fsize hf.at'
        omega
theorem Wf.unlink {t : List Th} (hW : Wf t) (p : ByteArray) : Wf (unlinkT t p).1 := by
  unfold Tre.unlinkT
  by_cases he : (fileT t p).2 ≠ 0
  · rw [if_pos he]; exact hW
  · rw [if_neg he]
    obtain ⟨n, i, s, hf⟩ := file_yes (by simpa using he)
    rw [(fileT_file hf).2.1]
    exact hW.drop hf.ne hf.fi (hW.leaf hf.at')
theorem Wf.rmdir {t : List Th} (hW : Wf t) (p : ByteArray) : Wf (rmdirT t p).1 := by
  by_cases he : dirE t p = 0
  · unfold dirE at he
    cases hs : Pat.spl p with
    | none => rw [hs] at he; cases he
    | some n =>
      rw [hs] at he
      simp only at he
      by_cases hg : goT t n = 0
      · rw [if_neg (fun h => h hg)] at he
        by_cases hd : dirT t n = false
        · rw [if_pos hd] at he
          cases he
        · obtain ⟨⟨d, s⟩, hv⟩ := goT_some hg
          have hdv := dirT_T hv
          have hdt : d = true := by cases d <;> simp_all
          subst hdt
          rw [rmdirT_yes ⟨hs, hv, hg, hdv⟩]
          by_cases h0 : n = []
          · rw [if_pos h0]; exact hW
          · rw [if_neg h0]
            by_cases hk : 0 < (kidT t n).length
            · rw [if_pos hk]; exact hW
            · rw [if_neg hk]
              obtain ⟨i, hi⟩ := fi_of_T h0 hv
              have : (fv t n).toNat = i := by unfold Tre.fv; rw [hi]; rfl
              rw [this]
              refine hW.drop h0 hi (fun x => ?_)
              cases hx : T t (n ++ [x]) with
              | none => rfl
              | some u =>
                have := (kidL_mem hW.once (n := n) (x := x)).2 (by rw [hx]; rfl)
                rw [kidT_len] at hk
                exact absurd (List.length_pos_of_mem this) hk
      · rw [if_pos hg] at he
        exact absurd he hg
  · rw [rmdirT_no he]; exact hW
end Trk
end Go.Proofs.YtkhkcfbacnkcnaaGreatDoor
/- Rows that are sorted are one, whoever sorted them. Of no program. -/
namespace Go.Proofs.YtkhkcfbacnkcnaaGreatDoor
open Go.RowKit Go.MapKept
namespace Trk
open Tre (Nm Th ins sorted kidL kidT)

section
variable {α : Type} {lt : α → α → Bool}
theorem ins_perm : ∀ (o : List α) (x : α), (ins lt o x).Perm (x :: o)
  | [], x => List.Perm.refl _
  | y :: o, x => by
    rw [Tre.ins]
    split
    · exact ((ins_perm o x).cons y).trans (List.Perm.swap x y o)
    · exact List.Perm.refl _
theorem sorted_perm (l : List α) : (sorted lt l).Perm l := by
  have key : ∀ (l o : List α), (l.foldl (ins lt) o).Perm (o ++ l) := by
    intro l
    induction l with
    | nil => intro o; rw [List.append_nil]; exact List.Perm.refl _
    | cons x l ih =>
      intro o
      rw [List.foldl_cons]
      refine (ih _).trans (((ins_perm o x).append_right l).trans ?_)
      exact (List.perm_middle (a := x) (l₁ := o) (l₂ := l)).symm
  exact key l []
theorem ins_pw (tr : ∀ a b c, lt a b = true → lt b c = true → lt a c = true) : ∀ (o : List α) (x : α), o.Pairwise (fun a b => lt a b = true) → (∀ y ∈ o, lt y x = true ∨ lt x y = true) → (ins lt o x).Pairwise (fun a b => lt a b = true)
  | [], x, _, _ => by simp [Tre.ins]
  | y :: o, x, h, ht => by
    obtain ⟨h1, h2⟩ := List.pairwise_cons.1 h
    rw [Tre.ins]
    split
    · rename_i hy
      refine List.pairwise_cons.2 ⟨fun z hz => ?_, ins_pw tr o x h2 (fun z hz => ht z (by simp [hz]))⟩
      rcases List.mem_cons.1 ((ins_perm o x).mem_iff.1 hz) with rfl | hz
      · exact hy
      · exact h1 z hz
    · rename_i hy
      have hxy : lt x y = true := (ht y (by simp)).resolve_left hy
      refine List.pairwise_cons.2 ⟨fun z hz => ?_, h⟩
      rcases List.mem_cons.1 hz with rfl | hz
      · exact hxy
      · exact tr _ _ _ hxy (h1 z hz)
theorem sorted_pw (tr : ∀ a b c, lt a b = true → lt b c = true → lt a c = true) (l : List α) (ht : l.Pairwise (fun a b => lt a b = true ∨ lt b a = true)) : (sorted lt l).Pairwise (fun a b => lt a b = true) := by
  have key : ∀ (l o : List α), o.Pairwise (fun a b => lt a b = true) → l.Pairwise (fun a b => lt a b = true ∨ lt b a = true) → (∀ a ∈ o, ∀ b ∈ l, lt a b = true ∨ lt b a = true) → (l.foldl (ins lt) o).Pairwise (fun a b => lt a b = true) := by
    intro l
    induction l with
    | nil => intro o h _ _; exact h
    | cons x l ih =>
      intro o h hl hol
      obtain ⟨h1, h2⟩ := List.pairwise_cons.1 hl
      rw [List.foldl_cons]
      refine ih _ (ins_pw tr o x h (fun y hy => hol y hy x (by simp))) h2 (fun a ha b hb => ?_)
      rcases List.mem_cons.1 ((ins_perm o x).mem_iff.1 ha) with rfl | ha
      · exact h1 b hb
      · exact hol a ha b (by simp [hb])
  exact key l [] List.Pairwise.nil ht (fun a ha => by simp at ha)
theorem one_of (as' : ∀ a b, lt a b = true → lt b a = true → False) {l m : List α} (h : l.Perm m) (hl : l.Pairwise (fun a b => lt a b = true)) (hm : m.Pairwise (fun a b => lt a b = true)) : l = m :=
  List.Perm.eq_of_pairwise (le := fun a b => lt a b = true) (fun a b _ _ h1 h2 => (as' a b h1 h2).elim) hl hm h
end
theorem less_lt (a b : ByteArray) : Pat.less a b = decide (a.data.toList < b.data.toList) := by
  unfold Pat.less
  rw [bytesLess_eq, Lib.toList_data, Lib.toList_data]
theorem less_tr (a b c : ByteArray) (h1 : Pat.less a b = true) (h2 : Pat.less b c = true) : Pat.less a c = true := by
  rw [less_lt, decide_eq_true_iff] at *
  exact List.lt_trans h1 h2
theorem less_as (a b : ByteArray) (h1 : Pat.less a b = true) (h2 : Pat.less b a = true) : False := by
  have := less_tr a b a h1 h2
  rw [Pat.less_irr] at this
  cases this
theorem less_or {a b : ByteArray} (h : a ≠ b) : Pat.less a b = true ∨ Pat.less b a = true := by
  have := Pat.less_tot h
  cases hb : Pat.less b a with
  | true => exact .inr rfl
  | false => rw [hb] at this; exact .inl this
theorem kidT_pw {t : List Th} (ht : Once t) (p : Nm) : (kidT t p).Pairwise (fun a b => Pat.less a b = true) := by
  rw [Tre.kidT_eq]
  exact sorted_pw less_tr _ ((kidL_once ht p).imp fun h => less_or h)
theorem kidT_perm (t : List Th) (p : Nm) : (kidT t p).Perm (kidL t p) := by
  rw [Tre.kidT_eq]
  exact sorted_perm _
/-- the library's sorted keys are the document's names -/
theorem keys_kidT {t : List Th} (ht : Once t) (p : Nm) {ss : List (List UInt8)} (h : ss.Perm ((kidL t p).map fun x => x.data.toList)) : (ss.mergeSort (fun x y => decide (x ≤ y))).map (fun x => (⟨x.toArray⟩ : ByteArray)) = kidT t p := by
  have hp : ((ss.mergeSort (fun x y => decide (x ≤ y))).map (fun x => (⟨x.toArray⟩ : ByteArray))).Perm (kidL t p) := by
    have := ((List.mergeSort_perm ss (fun x y => decide (x ≤ y))).trans h).map (fun x => (⟨x.toArray⟩ : ByteArray))
    rw [List.map_map] at this
    refine this.trans ?_
    rw [List.map_congr_left (g := id) (fun x _ => by simp)]
    rw [List.map_id]
  refine one_of less_as (hp.trans (kidT_perm t p).symm) ?_ (kidT_pw ht p)
  have hnd : (ss.mergeSort (fun x y => decide (x ≤ y))).Nodup := by
    refine ((List.mergeSort_perm ss _).trans h).nodup_iff.2 ?_
    exact List.pairwise_map.2 ((kidL_once ht p).imp fun hne e => hne (data_inj e))
  have hle : (ss.mergeSort (fun x y => decide (x ≤ y))).Pairwise (fun a b => decide (a ≤ b) = true) := List.pairwise_mergeSort (fun a b c h1 h2 => by simp only [decide_eq_true_eq] at *; exact List.le_trans h1 h2) (fun a b => by simp only [Bool.or_eq_true, decide_eq_true_eq]; exact List.le_total a b) ss
  refine List.pairwise_map.2 ((hle.and hnd).imp fun {a b} hab => ?_)
  rw [less_lt, decide_eq_true_iff]
  have h1 : a ≤ b := of_decide_eq_true hab.1
  simp only
  rcases Classical.em (a < b) with h | h
  · exact h
  · exact absurd (List.le_antisymm h1 (List.not_lt.1 h)) hab.2
end Trk
end Go.Proofs.YtkhkcfbacnkcnaaGreatDoor
/- How many things are in a directory, by its names. Of no program. -/
namespace Go.Proofs.YtkhkcfbacnkcnaaGreatDoor
open Go.RowKit Go.MapKept
namespace Trk
open Tre (Nm Th fi goT kidL)

/-- does it stand in there? -/
def Und (p : Nm) (y : Th) : Bool := decide (p.length < y.1.length ∧ y.1.take p.length = p)
/-- the names that stand in there, and this one -/
def cn (t : List Th) (p : Nm) : Nat := 1 + t.countP (Und p)
theorem sum_one {α : Type} [DecidableEq α] (o : Option α) : ∀ (ks : List α), ks.Nodup → (ks.map fun x => if o = some x then 1 else 0).sum = if ∃ x ∈ ks, o = some x then 1 else 0
  | [], _ => by simp
  | k :: ks, h => by
    obtain ⟨h1, h2⟩ := List.nodup_cons.1 h
    rw [List.map_cons, List.sum_cons, sum_one o ks h2]
    by_cases e : o = some k
    · rw [if_pos e, if_neg (fun ⟨x, hx, e'⟩ => by rw [e] at e'; injection e' with e'; exact h1 (e' ▸ hx)), if_pos ⟨k, by simp, e⟩]
    · rw [if_neg e, Nat.zero_add]
      by_cases e' : ∃ x ∈ ks, o = some x
      · obtain ⟨x, hx, ex⟩ := e'
        rw [if_pos ⟨x, hx, ex⟩, if_pos ⟨x, by simp [hx], ex⟩]
      · rw [if_neg e', if_neg (fun ⟨x, hx, ex⟩ => by
          rcases List.mem_cons.1 hx with rfl | hx
          · exact e ex
          · exact e' ⟨x, hx, ex⟩)]
theorem sum_split {α β : Type} [DecidableEq α] (key : β → Option α) (ks : List α) (hk : ks.Nodup) : ∀ t : List β, (ks.map fun x => t.countP fun y => decide (key y = some x)).sum = t.countP fun y => decide (∃ x ∈ ks, key y = some x)
  | [] => by
    simp only [List.countP_nil]
    induction ks with
    | nil => rfl
    | cons k ks ih => rw [List.map_cons, List.sum_cons, Nat.zero_add]; exact ih (List.nodup_cons.1 hk).2
  | y :: t => by
    have e : (ks.map fun x => (y :: t).countP fun y => decide (key y = some x)) = ks.map fun x => (t.countP fun y => decide (key y = some x)) + (if key y = some x then 1 else 0) := by
      apply List.map_congr_left
      intro x _
      rw [List.countP_cons]
      simp
    have add : ∀ (l : List α) (f g : α → Nat), (l.map fun x => f x + g x).sum = (l.map f).sum + (l.map g).sum := fun l f g => by
      induction l with
      | nil => rfl
      | cons a l ih => simp only [List.map_cons, List.sum_cons, ih]; omega
    rw [e, add, sum_split key ks hk t, sum_one (key y) ks hk, List.countP_cons]
    simp
/-- in whose directory's name's way it stands -/
def way (p : Nm) (y : Th) : Option ByteArray := if Und p y then y.1[p.length]? else none
theorem way_und {p : Nm} {y : Th} {x : ByteArray} : way p y = some x ↔ y.1.take (p.length + 1) = p ++ [x] := by
  unfold way Und
  by_cases h : p.length < y.1.length ∧ y.1.take p.length = p
  · have e1 : y.1.take (p.length + 1) = p ++ [y.1[p.length]'h.1] := (List.take_succ_eq_append_getElem h.1).trans (congrArg (· ++ [y.1[p.length]'h.1]) h.2)
    rw [if_pos (decide_eq_true h), List.getElem?_eq_getElem h.1, e1]
    constructor
    · intro e
      injection e with e
      rw [e]
    · intro e
      rw [app_inj e]
  · rw [if_neg (fun e => h (of_decide_eq_true e))]
    constructor
    · intro e
      cases e
    · intro e
      have hl := congrArg List.length e
      rw [List.length_take, List.length_append, List.length_singleton] at hl
      refine absurd ⟨by omega, ?_⟩ h
      have := congrArg (List.take p.length) e
      rw [List.take_take, Nat.min_eq_left (by omega), List.take_left] at this
      exact this
theorem cn_kids {t : List Th} (hW : Wf t) (p : Nm) : cn t p = 1 + ((kidL t p).map fun x => cn t (p ++ [x])).sum := by
  have h1 : ∀ x ∈ kidL t p, cn t (p ++ [x]) = t.countP fun y => decide (way p y = some x) := fun x hx => by
    obtain ⟨v, hv⟩ := Option.isSome_iff_exists.1 ((kidL_mem hW.once).1 hx)
    have hm := T_mem (by simp) hv
    have key : ∀ y : Th, (decide (way p y = some x)) = (Und (p ++ [x]) y || decide (y.1 = p ++ [x])) := fun y => by
      rw [Bool.eq_iff_iff, Bool.or_eq_true, decide_eq_true_iff, decide_eq_true_iff, way_und]
      unfold Und
      rw [decide_eq_true_iff, List.length_append, List.length_singleton]
      constructor
      · intro e
        by_cases h : p.length + 1 < y.1.length
        · exact .inl ⟨h, e⟩
        · exact .inr (by rw [← e]; exact (List.take_of_length_le (by omega)).symm)
      · rintro (h | h)
        · exact h.2
        · rw [h]
          exact List.take_of_length_le (by simp)
    have hone : t.countP (fun y => decide (y.1 = p ++ [x])) = 1 := by
      obtain ⟨i, hi, e⟩ := List.getElem_of_mem hm
      have : t.filter (fun y => decide (y.1 = p ++ [x])) = [(p ++ [x], v)] := by
        have hnd : (t.filter (fun y => decide (y.1 = p ++ [x]))).Pairwise (fun a b => a.1 ≠ b.1) := (List.pairwise_map.1 hW.once).sublist List.filter_sublist
        have hmem : (p ++ [x], v) ∈ t.filter (fun y => decide (y.1 = p ++ [x])) := List.mem_filter.2 ⟨hm, by simp⟩
        have hall : ∀ y ∈ t.filter (fun y => decide (y.1 = p ++ [x])), y.1 = p ++ [x] := fun y hy => of_decide_eq_true (List.mem_filter.1 hy).2
        generalize t.filter (fun y => decide (y.1 = p ++ [x])) = l at *
        match l, hnd, hmem, hall with
        | [a], _, hmem, _ => rw [List.mem_singleton.1 hmem]
        | a :: b :: l, hnd, _, hall => exact absurd ((hall a (by simp)).trans (hall b (by simp)).symm) ((List.pairwise_cons.1 hnd).1 b (by simp))
      rw [List.countP_eq_length_filter, this]
      rfl
    have hdis : ∀ l : List Th, l.countP (fun y => Und (p ++ [x]) y || decide (y.1 = p ++ [x])) = l.countP (Und (p ++ [x])) + l.countP (fun y => decide (y.1 = p ++ [x])) := fun l => by
      induction l with
      | nil => rfl
      | cons a l ih =>
        rw [List.countP_cons, List.countP_cons, List.countP_cons, ih]
        have hd : ¬ (Und (p ++ [x]) a = true ∧ a.1 = p ++ [x]) := fun ⟨h1, h2⟩ => by
          have := (of_decide_eq_true h1).1
          rw [h2] at this
          omega
        by_cases ha : Und (p ++ [x]) a = true <;> by_cases hb : a.1 = p ++ [x]
        · exact absurd ⟨ha, hb⟩ hd
        all_goals simp [ha, hb]
        all_goals omega
    unfold cn
    rw [List.countP_congr (p := fun y => decide (way p y = some x)) (q := fun y => Und (p ++ [x]) y || decide (y.1 = p ++ [x])) (fun y _ => by rw [key y]), hdis, hone]
    omega
  rw [List.map_congr_left h1, sum_split (way p) _ (kidL_once hW.once p)]
  unfold cn
  congr 1
  apply List.countP_congr
  intro y hy
  rw [decide_eq_true_iff]
  constructor
  · intro h
    have hu := of_decide_eq_true h
    have hw : way p y = some (y.1[p.length]'hu.1) := by
      unfold way
      rw [if_pos h, List.getElem?_eq_getElem hu.1]
    refine ⟨_, (kidL_mem hW.once).2 ?_, hw⟩
    have hy0 := (hW.nm y hy).1
    have hTy := mem_T hW.once hy hy0
    rw [← way_und.1 hw]
    rcases Nat.lt_or_ge (p.length + 1) y.1.length with hl | hl
    · obtain ⟨s, hs⟩ := wf_take hW 0 y.1.length y.2 (by omega) (Nat.le_refl _) (by rw [List.take_length]; exact hTy) (p.length + 1) hl
      rw [hs]
      rfl
    · rw [List.take_of_length_le hl, hTy]
      rfl
  · rintro ⟨x, _, hw⟩
    unfold way at hw
    by_cases h : Und p y = true
    · exact h
    · rw [if_neg h] at hw
      cases hw
/-- the whole tree -/
theorem cn_root {t : List Th} (hW : Wf t) : cn t [] = t.length + 1 := by
  unfold cn
  rw [List.countP_eq_length.2 (fun y hy => by
    unfold Und
    have := (hW.nm y hy).1
    refine decide_eq_true ⟨?_, rfl⟩
    exact List.length_pos_iff.2 this)]
  omega
end Trk
end Go.Proofs.YtkhkcfbacnkcnaaGreatDoor
