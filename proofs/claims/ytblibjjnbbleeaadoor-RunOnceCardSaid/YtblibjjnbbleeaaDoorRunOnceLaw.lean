/- RunOnce, walked. -/
import Derived.Test.YtblibjjnbbleeaaDoorRunFreeLaw
namespace Go.Proofs.YtblibjjnbbleeaaDoor
open Go.RowKit Go.MapKept
namespace Rn
open Bm

theorem fl_mono : ∀ (l : List Run) {f : Nat → Bool} {d : Nat}, f d = true → fl f l d = true
  | [], _, _, h => h
  | r :: l, f, d, h => fl_mono l (f := fill f r.1 (r.1 + r.2)) (by unfold fill; rw [h]; rfl)
theorem fl_has : ∀ {l : List Run} {f : Nat → Bool} {k d : Nat} (hk : k < l.length), l[k].1 ≤ d → d < l[k].1 + l[k].2 → fl f l d = true
  | r :: l, f, 0, d, _, h1, h2 => fl_mono l (f := fill f r.1 (r.1 + r.2)) (by
      unfold fill
      rw [decide_eq_true ⟨h1, h2⟩, Bool.or_true])
  | r :: l, f, k + 1, d, hk, h1, h2 => fl_has (l := l) (f := fill f r.1 (r.1 + r.2)) (k := k) (by simpa using hk) h1 h2

/-- two maps: the one that was drawn, and a copy -/
structure Tw (w0 w : World) (n : Nat) (f g : Nat → Bool) (p2 q2 C2 : Nat) : Prop where
  M : Mp w (w0.heap.size + 1) w0.heap.size ((n + 63) / 64) ((n + 63) / 64) n f
  W : Mp w p2 q2 ((n + 63) / 64) C2 n g
  B : Below w0.heap.size w0 w
  q : w0.heap.size + 1 < q2
  p : w0.heap.size < p2
section
variable {w0 w w' : World} {n p2 q2 C2 : Nat} {f g f' g' : Nat → Bool}
theorem Tw.keep (h : Tw w0 w n f g p2 q2 C2) (hb : Below w.heap.size w w') : Tw w0 w' n f g p2 q2 C2 := ⟨h.M.keep hb, h.W.keep hb, h.B.trans (hb.mono h.B.size), h.q, h.p⟩
theorem Tw.drewN (h : Tw w0 w n f g p2 q2 C2) (k : Nat) : Tw w0 (w.drewN k) n f g p2 q2 C2 := ⟨h.M.drewN k, h.W.drewN k, below_drewN h.B k, h.q, h.p⟩
/-- the first one is changed -/
theorem Tw.one (h : Tw w0 w n f g p2 q2 C2) (hM : Mp w' (w0.heap.size + 1) w0.heap.size ((n + 63) / 64) ((n + 63) / 64) n f') (hC : Chg w0.heap.size w w') : Tw w0 w' n f' g p2 q2 C2 :=
  ⟨hM, h.W.chg hC (Nat.ne_of_gt h.p) (by have := h.q; omega), h.B.trans (hC.below h.B.size (Nat.le_refl _)), h.q, h.p⟩
/-- the copy is changed -/
theorem Tw.two (h : Tw w0 w n f g p2 q2 C2) (hW : Mp w' p2 q2 ((n + 63) / 64) C2 n g') (hC : Chg q2 w w') : Tw w0 w' n f g' p2 q2 C2 :=
  ⟨h.M.chg hC (Nat.ne_of_lt h.q) (by have := h.q; omega), hW, h.B.trans (hC.below h.B.size (by have := h.q; omega)), h.q, h.p⟩
end

theorem Own2.chg {w w' : World} {b q : Nat} {x y : Int} (h : Own2 w b x y) (hc : Chg q w w') (hne : b ≠ q) : Own2 w' b x y :=
  ⟨Nat.lt_of_lt_of_le h.lt hc.size, (hc.cell (p := ⟨b, 0, none⟩) h.lt hne).trans h.c0, (hc.cell (p := ⟨b, 1, none⟩) h.lt hne).trans h.c1, fun o => (World.frozen?_of_block (w := w) (a := ⟨b, o, none⟩) (hc.block b h.lt hne)).trans (h.f o)⟩
/-- where the next run may begin -/
def Nx (l : List Run) (j : Nat) (ev : Int) : Prop := ∀ h : j < l.length, ev < (l[j].1 : Int)

set_option maxRecDepth 100000 in
set_option maxHeartbeats 4000000 in
theorem once_law (w : World) (hT : Tab w) (n : Nat) (hn : n < 65536) (A : Option Addr) (c : Nat) (us : List Nat) (h : Uns .u16 w A us) (hu : ∀ u ∈ us, u < 65536) (hl : us.length ≤ 9223372036854775807) (cn : Nat) (hcn : cn < 65536) :
    Calls Tryd.prog 6 #[.int .u16 (n : Int), .slice A us.length c, .int .u16 (cn : Int)] w fun e w' => e = .returned (.bool true) ∧ Below w.heap.size w w' := by
  have hlt := hT.lt
  have HT := Lib.hid hT
  have HL := Lib.hid (fun (w' : World) (h : Tab w') => lives_any w' h)
  have HD := Lib.hid (fun (w' : World) (h : Uns .u16 w' A us) => draw_any w' n hn A c us h hu hl)
  have H := Lib.hid h
  clear hT h hu
  by_cases hlen : us.length ≤ 200
  · have hl1 : ¬ (200 : Int) < (us.length : Int) := by omega
    have hk := drw_max n
    generalize 1 + n % 200 = kk at *
    obtain ⟨k2, hk2⟩ : ∃ k, k = kk + 2 := ⟨_, rfl⟩
    have hks : (kk : Int) + 2 = (k2 : Int) := by omega
    have hk20 : ¬ (k2 : Int) = 0 := by omega
    have hk21 : 1 ≤ k2 := by omega
    have hk22 : k2 ≤ 202 := by omega
    obtain ⟨x, hx⟩ : ∃ x, x = cn % k2 := ⟨_, rfl⟩
    have hxm : (cn : Int) % (k2 : Int) = (x : Int) := by rw [hx]; rfl
    have hx2 : x < 202 := by have := Nat.mod_lt cn (show k2 > 0 by omega); omega
    clear hk2 hx
    go_enter Tryd.func6, Tryd.ntmps6
    go_wp2_with fail
    refine (HL.out _ HT.out).mono ?_
    rintro e w1 ⟨rfl, hb1⟩
    have HB1 := Lib.hid hb1
    clear hb1
    go_wp2_with fail
    refine (HD.out _ (H.out.keep HB1.out)).mono ?_
    rintro e w2 ⟨R, rc, rfl, hM, hL, hB⟩
    have hT1 := HT.out.below HB1.out hlt
    have HT2 := Lib.hid (fun (w' : World) (h : Below w1.heap.size w1 w') => hT1.below h hT1.lt)
    have HQ := Lib.hid (Nat.ne_of_lt hT1.lt)
    have HM := Lib.hid hM
    have HBD := Lib.hid hB
    clear hM hL hB hT1
    generalize drw kk us = f at *
    go_wp2_with fail
    refine (copy_any HM.out).mono ?_
    rintro e w3 ⟨p2, q2, C2, rfl, hp2, hq2, hW3, hb3⟩
    have HTW := Lib.hid (show Tw w1 w3 kk f f p2 q2 C2 from ⟨HM.out.keep hb3, hW3, HBD.out.trans (hb3.mono HBD.out.size), by have := HM.out.lt; omega, by have := HM.out.row.lt; omega⟩)
    clear hp2 hq2 hW3 hb3
    go_wp2_with fail
    refine (len_any HTW.out.M).mono ?_
    rintro e w4 ⟨rfl, rfl⟩
    by_cases hxc : x ≤ kk - cnt f kk
    · have HTK := Lib.hid (take_yes HTW.out.M (HT2.out _ HTW.out.B) HQ.out x hxc)
      have htot := tot_cho (frs f kk) x (by rw [tot_frs]; exact hxc)
      have HUP := Lib.hid (up_cho f kk x)
      have hchl := cho_len (frs f kk) x
      have hfl := frs_len f kk
      have hll : (cho (frs f kk) x).length ≤ 1000 := by omega
      generalize cho (frs f kk) x = l at *
      have HTOT := Lib.hid htot
      clear hxc htot hchl hfl
      go_wp2_with fail
      refine HTK.out.mono ?_
      rintro e w5 ⟨G, gc, rfl, hrs, hM5, hC5⟩
      have HTW5 := Lib.hid (HTW.out.one hM5 hC5)
      have HRS5 := Lib.hid hrs
      have hq3 : q2 < w3.heap.size := HTW.out.W.row.lt
      clear hrs hM5 hC5
      go_wp2
      go_loopw [13, 14, 64] (fun s13 s14 i wr => ∃ (j : Nat) (ev : Int), j ≤ l.length ∧ i = .int .i64 (j : Int) ∧ s13 = .int .i64 (tot (l.take j) : Int) ∧ s14 = .int .i64 ev ∧ Nx l j ev ∧ Tw w1 wr kk (fl f l) (fl f (l.take j)) p2 q2 C2 ∧ Rs wr w3.heap.size G l) (fun _ _ i _ => l.length - (intOf i).toNat)
      case atStart => exact ⟨0, -1, Nat.zero_le _, rfl, rfl, rfl, fun _ => by omega, by rw [List.take_zero]; exact HTW5.out, HRS5.out⟩
      case round =>
        obtain ⟨j, ev, hj, rfl, rfl, rfl, hnx, hTW, hrs⟩ := hrel
        by_cases hjl : j < l.length
        · obtain ⟨b, o, rfl, hbb, _, hc0, hc1⟩ := hrs.at' j hjl
          have hev := hnx hjl
          have hget := HUP.out.get hjl
          have HNX := Lib.hid (fun (h : j + 1 < l.length) => (show (l[j]'hjl).1 + (l[j]'hjl).2 < l[j + 1].1 from HUP.out.next h))
          have HFT := Lib.hid (fl_take (f := f) hjl)
          have HBE := Lib.hid (fl_behind HUP.out hjl (fun _ _ => rfl))
          have HHA := Lib.hid (fun d => fl_has (f := f) (d := d) hjl)
          have htt := tot_take hjl
          have htl := tot_take_le l j
          have HTT := Lib.hid htt
          have hft := HTOT.out
          have hlj1 : l[j].1 + l[j].2 ≤ kk := hget.2.2.1
          have hlj2 : 1 ≤ l[j].2 := hget.2.1
          have HFF := Lib.hid hget.2.2.2
          have hba := (Below.refl wr.heap.size wr).alloc (Nat.le_refl _) (.cells #[.int .i64 (l[j].1 : Int), .int .i64 (l[j].2 : Int)] 30)
          have HTW6 := Lib.hid (hTW.keep hba)
          have HRS6 := Lib.hid (hrs.keep hba)
          have HOZ := Lib.hid (own2_new wr (l[j].1 : Int) (l[j].2 : Int) 30)
          have hqz : wr.heap.size ≠ q2 := by have := hTW.W.row.lt; omega
          have hT0 : tot (l.take j) ≤ 202 := by omega
          have hi0 : (0 : Int) ≤ (j : Int) := by omega
          have hi1 : (j : Int) < (l.length : Int) := by omega
          clear hnx hTW hrs hget htt htl hft hba
          generalize l[j].1 = a at *
          generalize l[j].2 = y at *
          generalize tot (l.take j) = t0 at *
          generalize hg0 : fl f (l.take j) = g0 at *
          clear hg0
          have hy1 : ¬ (y : Int) < 1 := by omega
          have hae : ¬ (a : Int) ≤ ev := by omega
          go_wp2
          generalize hw6 : wr.alloc (.cells #[.int .i64 (a : Int), .int .i64 (y : Int)] 30) = w6 at *
          clear hw6
          generalize wr.heap.size = z at *
          go_loopw [13, 17] (fun s13 s17 wx => ∃ i : Nat, i ≤ y ∧ s17 = .int .i64 ((a + i : Nat) : Int) ∧ s13 = .int .i64 ((t0 + i : Nat) : Int) ∧ Tw w1 wx kk (fl f l) (fill g0 a (a + i)) p2 q2 C2 ∧ Rs wx w3.heap.size (some ⟨b, o, none⟩) l ∧ Own2 wx z (a : Int) (y : Int)) (fun _ s17 _ => a + y - (intOf s17).toNat)
          case atStart => exact ⟨0, Nat.zero_le _, rfl, rfl, by rw [Nat.add_zero, fill_none]; exact HTW6.out, HRS6.out, HOZ.out⟩
          case round =>
            obtain ⟨i, hi, rfl, rfl, hTW, hrs, hO⟩ := hrel
            obtain ⟨d, hd⟩ : ∃ d, d = a + i := ⟨_, rfl⟩
            obtain ⟨e0, he⟩ : ∃ e, e = a + y := ⟨_, rfl⟩
            obtain ⟨t1, ht1⟩ : ∃ t, t = t0 + i := ⟨_, rfl⟩
            rw [← hd] at hTW ⊢
            rw [← ht1]
            have hoc0 := hO.c0
            have hoc1 := hO.c1
            have hay : (a : Int) + (y : Int) = (e0 : Int) := by omega
            by_cases hiy : i < y
            · have hde : (d : Int) < (e0 : Int) := by omega
              have hdk : d < kk := by omega
              have hfd : fill g0 a d d = false := by
                unfold fill
                rw [HBE.out d (by omega), HFF.out d (by omega) (by omega), decide_eq_false (by omega)]
                rfl
              have hw := has_yes hTW.W d hdk
              rw [hfd] at hw
              have HW1 := Lib.hid hw
              have HM1 := Lib.hid (fun k => has_yes (hTW.drewN k).M d hdk)
              have hhd : fl f l d = true := HHA.out d (by omega) (by omega)
              rw [hhd] at HM1
              have HTW7 := Lib.hid hTW
              have HRS7 := Lib.hid hrs
              have HO7 := Lib.hid hO
              have HST := Lib.hid (fill_step (f := g0) a d (by omega))
              have HFD := Lib.hid hfd
              have HID := Lib.hid (show d + 1 = a + (i + 1) ∧ t1 + 1 = t0 + (i + 1) by omega)
              have hde2 : d + 1 ≤ a + y := by omega
              have HMS := Lib.hid (show a + y - (d + 1) < a + y - d by omega)
              have ht2 : t1 ≤ 70000 := by omega
              clear hTW hrs hO hw hfd hhd hd he ht1 hc0 hc1
              go_wp2_with fail
              refine HW1.out.mono ?_
              rintro e w7 ⟨rfl, k7, rfl⟩
              go_wp2_with fail
              refine (HM1.out k7).mono ?_
              rintro e w8 ⟨rfl, k8, hw8⟩
              have HTW8 := Lib.hid (show Tw w1 w8 kk (fl f l) (fill g0 a d) p2 q2 C2 from by rw [hw8]; exact (HTW7.out.drewN k7).drewN k8)
              have HRS8 := Lib.hid (show Rs w8 w3.heap.size (some ⟨b, o, none⟩) l from by rw [hw8]; exact ⟨HRS7.out.at'⟩)
              have HO8 := Lib.hid (show Own2 w8 z (a : Int) (y : Int) from by rw [hw8]; exact (HO7.out.drewN k7).drewN k8)
              have hput := put1_any HTW8.out.W (d : Int) (by omega) (by omega) 1
              have htrd : trd kk true (fill g0 a d) (d : Int) = true := by
                unfold trd
                rw [Int.toNat_natCast, HFD.out, decide_eq_true (by omega)]
                rfl
              have htrn : trn kk true (fill g0 a d) (d : Int) = fill g0 a (d + 1) := by
                unfold trn
                rw [htrd, if_pos rfl, Int.toNat_natCast, HST.out]
              rw [htrd, htrn, if_pos rfl] at hput
              have HPUT := Lib.hid hput
              clear hw8 hput htrd htrn hoc0 hoc1
              go_wp2_with fail
              refine HPUT.out.mono ?_
              rintro e w9 ⟨rfl, hW9, hC9⟩
              have HTW9 := Lib.hid (HTW8.out.two hW9 hC9)
              have HRS9 := Lib.hid (HRS8.out.chg hC9 hq3)
              have HO9 := Lib.hid (show Own2 w9 z (a : Int) (y : Int) from HO8.out.chg hC9 hqz)
              clear hW9 hC9
              go_wp2
              refine ⟨⟨i + 1, by omega, by rw [← HID.out.1]; go_num, by rw [← HID.out.2]; go_num, by rw [← HID.out.1]; exact HTW9.out, HRS9.out, HO9.out⟩, by have := HMS.out; simp [intOf]; omega⟩
            · obtain rfl : i = y := by omega
              have hde : ¬ (d : Int) < (e0 : Int) := by omega
              have HTW7 := Lib.hid hTW
              have HRS7 := Lib.hid hrs
              have HE := Lib.hid (show d = a + i from hd)
              have HE2 := Lib.hid (show t1 = t0 + i from ht1)
              have HE3 := Lib.hid (show e0 = a + i from he)
              clear hTW hrs hO hd he ht1 hc0 hc1
              go_wp2
              refine ⟨⟨j + 1, (e0 : Int), by omega, by go_num, by rw [HTT.out, HE2.out], rfl, fun h => ?_, ?_, HRS7.out⟩, by simp [intOf]; omega⟩
              · have := HNX.out h
                rw [HE3.out]
                omega
              · rw [HFT.out, ← HE.out]
                exact HTW7.out
        · obtain rfl : j = l.length := by omega
          rw [List.take_length] at hTW
          rw [List.take_length, HTOT.out]
          have hsm := Bm.same_any hTW.M hTW.W
          rw [decide_eq_true rfl] at hsm
          have HSM := Lib.hid hsm
          have HTWE := Lib.hid hTW
          clear hnx hTW hrs hsm
          go_wp2_with fail
          refine HSM.out.mono ?_
          rintro e w6 ⟨rfl, k6, rfl⟩
          have HB := Lib.hid (HB1.out.trans ((HTWE.out.drewN k6).B.mono HB1.out.size))
          go_wp2
          go_ret
          exact ⟨rfl, HB.out⟩
    · have hxc2 : ((kk - cnt f kk : Nat) : Int) < (x : Int) := by omega
      have HTK := Lib.hid (take_no HTW.out.M (x : Int) (.inr hxc2))
      clear hxc
      go_wp2_with fail
      refine HTK.out.mono ?_
      rintro e w5 ⟨rfl, k5, rfl⟩
      have HTW5 := Lib.hid (HTW.out.drewN k5)
      generalize w3.drewN k5 = w5 at *
      have HFR := Lib.hid (free_any HTW5.out.W)
      generalize kk - cnt f kk = m at *
      go_wp2_with fail
      refine HFR.out.mono ?_
      rintro e w6 ⟨rfl, k6, rfl⟩
      have HTW6 := Lib.hid (HTW5.out.drewN k6)
      generalize w5.drewN k6 = w6 at *
      have hsm := Bm.same_any HTW6.out.M HTW6.out.W
      rw [decide_eq_true rfl] at hsm
      have HSM := Lib.hid hsm
      clear hsm
      go_wp2_with fail
      refine HSM.out.mono ?_
      rintro e w7 ⟨rfl, k7, rfl⟩
      have HB := Lib.hid (HB1.out.trans ((HTW6.out.drewN k7).B.mono HB1.out.size))
      go_wp2
      go_ret
      exact ⟨rfl, HB.out⟩
  · have hl1 : (200 : Int) < (us.length : Int) := by omega
    go_enter Tryd.func6, Tryd.ntmps6
    go_wp2_with fail
    refine (HL.out _ HT.out).mono ?_
    rintro e w1 ⟨rfl, hb1⟩
    have HB1 := Lib.hid hb1
    clear hb1
    go_wp2_with fail
    refine (HL.out _ (HT.out.below HB1.out hlt)).mono ?_
    rintro e w2 ⟨rfl, hb2⟩
    have HB2 := Lib.hid (HB1.out.trans (hb2.mono HB1.out.size))
    clear hb2
    go_wp2
    go_ret
    exact ⟨rfl, HB2.out⟩
end Rn
end Go.Proofs.YtblibjjnbbleeaaDoor
