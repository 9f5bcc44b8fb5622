/- Texts laid together: RecRefDec, RecLives, PackRefWords, VolMath, VolDev, VolOf, VolLay, VolMed, VolLin, VolWrite, VolVol, VolRaw. -/
import Derived.Test.YtcojgpjappjobaaGreatDoorVs7
import Derived.Test.YtcojgpjappjobaaGreatDoorVs4
import Derived.Test.YtcojgpjappjobaaGreatDoorRows
import Derived.WalkKit
import Derived.ProofKit
import Derived.Lib.Hide
import Derived.Lib.SlicesCompact
import Derived.Test.YtcojgpjappjobaaGreatDoorVs1
import Derived.Test.YtcojgpjappjobaaGreatDoorVs6
import Derived.Shelf.SlicesG.CompactI
import Derived.Ground.SlgnProg
import Derived.Test.YtcojgpjappjobaaGreatDoorProg
import Derived.Lib.OwnBridge
import Derived.Test.YtcojgpjappjobaaGreatDoorVs3
import Derived.Test.YtcojgpjappjobaaGreatDoorVs2
import Derived.Test.YtcojgpjappjobaaGreatDoorVs5
/- The document's decoding. -/
namespace Go.Proofs.YtcojgpjappjobaaGreatDoor
open Go.RowKit Go.MapKept
namespace Rec
open Lin

section
variable {w : World}

theorem take_all {l : List Nat} {j : Nat} (hlt : j < l.length) : (l.take (j + 1)).all (fun x => x == 0) = ((l.take j).all (fun x => x == 0) && (l[j] == 0)) := by
  rw [List.take_succ_eq_append_getElem hlt, List.all_append]
  simp

set_option maxHeartbeats 2000000 in
set_option maxRecDepth 100000 in
theorem refDecode_any (A : Option Addr) (cp : Nat) (l : List Nat) (h : Pack.Wds w A l) :
    Calls Tryz.prog 78 #[.slice A l.length cp] w fun r w' => r = .returned (.tuple #[gv (dec l), .int .i64 (st l)]) ∧ Below w.heap.size w w' := by
  have hlen := h.len
  have HB := Lib.hid ((Below.refl w.heap.size w).alloc (Nat.le_refl _) (.cells #[.int .i64 0, .int .i64 0, .int .i64 0, .int .i64 0] 74))
  have HX := Lib.hid (owned4 w 0 0 0 0 74)
  by_cases hl : l.length = 8
  · have HAZ := Lib.hid (all_zero hl)
    have HU := Lib.hid h.u64
    have H1 := Lib.hid (h.keep HB.out)
    have HL := Lib.hid hl
    obtain ⟨b, o, hA, hb, hcell⟩ := H1.out.at' 0 (by omega)
    subst hA
    rw [Nat.add_zero] at hcell
    obtain ⟨b', o', e, _, hcell1⟩ := H1.out.at' 1 (by omega)
    injection e with e
    injection e with e1 e2
    subst e1 e2
    have hx := h.u64 l[0] (List.getElem_mem _)
    have hy := h.u64 l[1] (List.getElem_mem _)
    have HD0 := Lib.hid (show l[0]?.getD 0 = l[0] by rw [List.getElem?_eq_getElem (by omega)]; rfl)
    have HD1 := Lib.hid (show l[1]?.getD 0 = l[1] by rw [List.getElem?_eq_getElem (by omega)]; rfl)
    rw [hl]
    clear h HU
    generalize l[0] = x at *
    generalize l[1] = y at *
    clear hl
    go_enter Tryz.func78, Tryz.ntmps78
    go_wp2
    generalize w.alloc (.cells #[.int .i64 0, .int .i64 0, .int .i64 0, .int .i64 0] 74) = w1 at *
    go_loopw [4, 16] (fun v i wr => ∃ j : Nat, j ≤ 8 ∧ i = .int .i64 (j : Int) ∧ v = .bool ((l.take j).all (fun x => x == 0)) ∧ w1 = wr) (fun _ i _ => 8 - (intOf i).toNat)
    case atStart => exact ⟨0, Nat.zero_le _, rfl, rfl, rfl⟩
    case round =>
      obtain ⟨j, hj, rfl, rfl, rfl⟩ := hrel
      by_cases hlt : j < 8
      · have hlt2 : j < l.length := by rw [HL.out]; exact hlt
        obtain ⟨b2, o2, e, hb2, hcell2⟩ := H1.out.at' j hlt2
        injection e with e
        injection e with e1 e2
        subst e1 e2
        have hi0 : (0 : Int) ≤ (j : Int) := by omega
        have hi1 : (j : Int) < 8 := by omega
        have HT := Lib.hid (take_all hlt2)
        generalize l[j] = u at *
        clear hlt2 hcell hcell1
        generalize (l.take j).all (fun x => x == 0) = v at *
        by_cases hu : u = 0
        · subst hu
          cases v
          · go_wp2
            refine ⟨⟨j + 1, by omega, by go_num, by rw [HT.out]; rfl, trivial⟩, by simp [intOf]; omega⟩
          · go_wp2
            refine ⟨⟨j + 1, by omega, by go_num, by rw [HT.out]; rfl, trivial⟩, by simp [intOf]; omega⟩
        · have hne : ¬ (u : Int) = 0 := by omega
          have HF := Lib.hid (show (l.take (j + 1)).all (fun x => x == 0) = false by
            rw [HT.out, show (u == 0) = false from by simpa using hu, Bool.and_false])
          clear hu HT
          cases v
          · go_wp2
            refine ⟨⟨j + 1, by omega, by go_num, by rw [HF.out], trivial⟩, by simp [intOf]; omega⟩
          · go_wp2
            refine ⟨⟨j + 1, by omega, by go_num, by rw [HF.out]; simp; omega, trivial⟩, by simp [intOf]; omega⟩
      · obtain rfl : j = 8 := by omega
        rw [List.take_of_length_le (by rw [HL.out]; omega), HAZ.out]
        clear hlt hj
        have hbw : b < w1.heap.size := hb
        by_cases hz : l = zero
        · have HD := Lib.hid (show dec l = none by rw [hz]; exact dec_zero)
          have HST := Lib.hid (show st l = 0 by rw [hz]; exact st_zero)
          rw [decide_eq_true hz]
          clear hz hcell hcell1
          have hc0 := HX.out.box.c0
          have hc1 := HX.out.box.c1
          have hc2 := HX.out.box.c2
          have hc3 := HX.out.box.c3
          have hf0 := HX.out.f 0
          have hf1 := HX.out.f 1
          have hf2 := HX.out.f 2
          have hf3 := HX.out.f 3
          go_wp2
          rw [HD.out, HST.out]
          refine bodyPost_ret (v := .tuple #[gv none, .int .i64 0]) ?_ rfl ⟨rfl, ?_⟩
          · simp [results, Tryz.results78, go_sem, gv, hc0, hc1, hc2, hc3]
          · exact (((HB.out.setCell (Nat.le_refl _) _).setCell (Nat.le_refl _) _).setCell (Nat.le_refl _) _).setCell (Nat.le_refl _) _
        · rw [decide_eq_false hz]
          have HZ := Lib.hid hz
          clear hz
          by_cases h16 : y ≤ 65535
          · obtain ⟨s, hs⟩ : ∃ s, s = x / 65536 % 65536 := ⟨_, rfl⟩
            obtain ⟨f, hf⟩ : ∃ f, f = x / 4294967296 % 65536 := ⟨_, rfl⟩
            obtain ⟨t, ht⟩ : ∃ t, t = x / 281474976710656 := ⟨_, rfl⟩
            obtain ⟨sx, hsx⟩ : ∃ sx, sx = x / 65536 := ⟨_, rfl⟩
            obtain ⟨fx, hfx⟩ : ∃ fx, fx = x / 4294967296 := ⟨_, rfl⟩
            have hs1 : s < 65536 := by omega
            have hf1 : f < 65536 := by omega
            have ht1 : t < 65536 := by omega
            have HD := Lib.hid (show dec l = if may s f t y = true ∧ l = ln s f t y then some (s, f, t, y) else none by
              unfold dec
              simp only [HD0.out, HD1.out, ← hs, ← hf, ← ht]
              by_cases hc : may s f t y = true ∧ l = ln s f t y
              · rw [if_pos hc, if_pos ⟨HL.out, hc⟩]
              · rw [if_neg hc, if_neg (fun h => hc h.2)])
            have HX1 := Lib.hid (show (x : Int) / 65536 = (sx : Int) by omega)
            have HX2 := Lib.hid (show (sx : Int) % 65536 = (s : Int) by omega)
            have HX3 := Lib.hid (show (x : Int) / 4294967296 = (fx : Int) by omega)
            have HX4 := Lib.hid (show (fx : Int) % 65536 = (f : Int) by omega)
            have HX5 := Lib.hid (show (x : Int) / 281474976710656 = (t : Int) by omega)
            have hws : IntKind.wrap .i64 (s : Int) = (s : Int) := by rw [IntKind.wrap_i64]; omega
            have hwf : IntKind.wrap .i64 (f : Int) = (f : Int) := by rw [IntKind.wrap_i64]; omega
            have hwt : IntKind.wrap .i64 (t : Int) = (t : Int) := by rw [IntKind.wrap_i64]; omega
            have hwy : IntKind.wrap .i64 (y : Int) = (y : Int) := by rw [IntKind.wrap_i64]; omega
            have hy16 : ¬ (65535 : Int) < (y : Int) := by omega
            clear hs hf ht hsx hfx HD0 HD1
            go_wp2
            have hx1 := HX1.out
            have hx2 := HX2.out
            have hx3 := HX3.out
            have hx4 := HX4.out
            have hx5 := HX5.out
            go_region
            have hba := (Below.refl w1.heap.size w1).alloc (Nat.le_refl _) (.cells #[.int .i64 (s : Int), .int .i64 (f : Int), .int .i64 (t : Int), .int .i64 (y : Int)] 74)
            have HXO := Lib.hid (HX.out.keep hba).drew
            have HG2 := Lib.hid (boxed4 w1 s f t y 74).drew
            have HB2 := Lib.hid (HB.out.trans (hba.mono HB.out.size)).drew
            have H2 := Lib.hid (H1.out.keep hba.drew)
            have HMY := Lib.hid (fun w => refMay_any w s f t y)
            clear hws hwf hwt hwy hba HX HB H1 hb hcell hcell1 hx1 hx2 hx3 hx4 hx5 HX1 HX2 HX3 HX4 HX5 hx hy hy16 h16 hbw HAZ hlen
            go_wp2_with fail
            generalize (w1.alloc (.cells #[.int .i64 (s : Int), .int .i64 (f : Int), .int .i64 (t : Int), .int .i64 (y : Int)] 74)).drew = w2 at *
            generalize w1.heap.size = k1 at *
            cases hmay : may s f t y with
            | false =>
              have HN := Lib.hid (show dec l = none by rw [HD.out, if_neg (fun h => by rw [hmay] at h; simp at h)])
              have HST := Lib.hid (st_none HZ.out HN.out)
              refine (HMY.out _).mono ?_
              rintro e w3 ⟨rfl, hb3⟩
              rw [hmay]
              have HX3 := Lib.hid (HXO.out.keep hb3)
              have HB3 := Lib.hid (HB2.out.trans (hb3.mono HB2.out.size))
              clear hb3 hmay HXO HB2 H2 HD HMY HG2
              have hc0 := HX3.out.box.c0
              have hc1 := HX3.out.box.c1
              have hc2 := HX3.out.box.c2
              have hc3 := HX3.out.box.c3
              have hf0 := HX3.out.f 0
              have hf1 := HX3.out.f 1
              have hf2 := HX3.out.f 2
              have hf3 := HX3.out.f 3
              go_wp2
              rw [HN.out, HST.out]
              refine bodyPost_ret (v := .tuple #[gv none, .int .i64 2]) ?_ rfl ⟨rfl, ?_⟩
              · simp [results, Tryz.results78, go_sem, gv, hc0, hc1, hc2, hc3]
              · exact (((HB3.out.setCell (Nat.le_refl _) _).setCell (Nat.le_refl _) _).setCell (Nat.le_refl _) _).setCell (Nat.le_refl _) _
            | true =>
              refine (HMY.out _).mono ?_
              rintro e w3 ⟨rfl, hb3⟩
              rw [hmay]
              have HX3 := Lib.hid (HXO.out.keep hb3)
              have HG3 := Lib.hid (HG2.out.keep hb3)
              have H3 := Lib.hid (H2.out.keep hb3)
              have HB3 := Lib.hid (HB2.out.trans (hb3.mono HB2.out.size))
              have HM := Lib.hid hmay
              clear hb3 hmay HXO HB2 H2 HMY HG2
              have hg0 := HG3.out.c0
              have hg1 := HG3.out.c1
              have hg2 := HG3.out.c2
              have hg3 := HG3.out.c3
              go_wp2_with fail
              refine (refEncode_yes _ s f t y HM.out).mono ?_
              rintro e w4 ⟨G, gc, rfl, hw, hb4⟩
              have HX4 := Lib.hid (HX3.out.keep hb4)
              have HG4 := Lib.hid (HG3.out.keep hb4)
              have H4 := Lib.hid (H3.out.keep hb4)
              have HB4 := Lib.hid (HB3.out.trans (hb4.mono HB3.out.size))
              have HW := Lib.hid hw
              have hz3 : w.heap.size < w4.heap.size := HX4.out.box.lt
              have hz5 : k1 < w4.heap.size := HG4.out.lt
              clear hb4 HX3 HB3 H3 HG3 hw hg0 hg1 hg2 hg3
              obtain ⟨L, hL⟩ : ∃ L, ln s f t y = L := ⟨_, rfl⟩
              have HLL := Lib.hid (show L.length = 8 by rw [← hL]; exact ln_len _ _ _ _)
              rw [hL] at HW HD
              clear hL
              go_wp2
              go_loopw [63] (fun i wr => ∃ (j q : Nat), j ≤ 8 ∧ i = .int .i64 (j : Int) ∧ L.take j = l.take j ∧ wr = w4.drewN q) (fun i _ => 8 - (intOf i).toNat)
              case atStart => exact ⟨0, 0, Nat.zero_le _, rfl, rfl, rfl⟩
              case round =>
                obtain ⟨j, q, hj, rfl, hs, rfl⟩ := hrel
                have HS := Lib.hid hs
                clear hs
                by_cases hlt : j < 8
                · have hlt1 : j < L.length := by rw [HLL.out]; exact hlt
                  have hlt2 : j < l.length := by rw [HL.out]; exact hlt
                  obtain ⟨b1, o1, rfl, hb1, hcell1⟩ := HW.out.at' j hlt1
                  obtain ⟨b2, o2, e, hb2, hcell2⟩ := H4.out.at' j hlt2
                  injection e with e
                  injection e with e1 e2
                  subst e1 e2
                  have hi0 : (0 : Int) ≤ (j : Int) := by omega
                  have hi1 : (j : Int) < 8 := by omega
                  have HE := Lib.hid (show L.take (j + 1) = l.take (j + 1) ↔ L[j] = l[j] by
                    rw [List.take_succ_eq_append_getElem hlt1, List.take_succ_eq_append_getElem hlt2, HS.out, List.append_right_inj]
                    simp)
                  generalize L[j] = u at *
                  generalize l[j] = z at *
                  clear hlt1 hlt2
                  by_cases huz : u = z
                  · subst huz
                    have HE1 := Lib.hid (HE.out.2 rfl)
                    clear HE
                    go_wp2
                    go_quiet (fail)
                    go_wp2
                    refine ⟨⟨j + 1, q + nq, by omega, by go_num, HE1.out, rfl⟩, by simp [intOf]; omega⟩
                  · have hne : ¬ (u : Int) = (z : Int) := by omega
                    have HN := Lib.hid (show dec l = none by rw [HD.out, if_neg (fun h => huz (HE.out.1 (by rw [h.2])))])
                    have HST := Lib.hid (st_none HZ.out HN.out)
                    clear HE huz
                    go_wp2
                    go_quiet (fail)
                    clear hi0 hi1 hcell1 hcell2
                    have HX5 := Lib.hid (HX4.out.drewN (q + nq))
                    have HB5 := Lib.hid (Pack.below_drewN HB4.out (q + nq))
                    have hc0 := HX5.out.box.c0
                    have hc1 := HX5.out.box.c1
                    have hc2 := HX5.out.box.c2
                    have hc3 := HX5.out.box.c3
                    have hf0 := HX5.out.f 0
                    have hf1 := HX5.out.f 1
                    have hf2 := HX5.out.f 2
                    have hf3 := HX5.out.f 3
                    go_wp2
                    rw [HN.out, HST.out]
                    refine bodyPost_ret (v := .tuple #[gv none, .int .i64 2]) ?_ rfl ⟨rfl, ?_⟩
                    · simp [results, Tryz.results78, go_sem, gv, hc0, hc1, hc2, hc3]
                    · exact (((HB5.out.setCell (Nat.le_refl _) _).setCell (Nat.le_refl _) _).setCell (Nat.le_refl _) _).setCell (Nat.le_refl _) _
                · obtain rfl : j = 8 := by omega
                  have he : l = L := by
                    have := HS.out
                    rw [List.take_of_length_le (by rw [HLL.out]; omega), List.take_of_length_le (by rw [HL.out]; omega)] at this
                    exact this.symm
                  have HN := Lib.hid (show dec l = some (s, f, t, y) by rw [HD.out, if_pos ⟨HM.out, he⟩])
                  have HST := Lib.hid (st_some HN.out)
                  clear he
                  have HX5 := Lib.hid (HX4.out.drewN q)
                  have HG5 := Lib.hid (HG4.out.drewN q)
                  have HB5 := Lib.hid (Pack.below_drewN HB4.out q)
                  have hc0 := HX5.out.box.c0
                  have hc1 := HX5.out.box.c1
                  have hc2 := HX5.out.box.c2
                  have hc3 := HX5.out.box.c3
                  have hf0 := HX5.out.f 0
                  have hf1 := HX5.out.f 1
                  have hf2 := HX5.out.f 2
                  have hf3 := HX5.out.f 3
                  have hg0 := HG5.out.c0
                  have hg1 := HG5.out.c1
                  have hg2 := HG5.out.c2
                  have hg3 := HG5.out.c3
                  go_wp2
                  rw [HN.out, HST.out]
                  refine bodyPost_ret (v := .tuple #[gv (some (s, f, t, y)), .int .i64 1]) ?_ rfl ⟨rfl, ?_⟩
                  · simp [results, Tryz.results78, go_sem, gv, hc0, hc1, hc2, hc3]
                  · exact (((HB5.out.setCell (Nat.le_refl _) _).setCell (Nat.le_refl _) _).setCell (Nat.le_refl _) _).setCell (Nat.le_refl _) _
          · have HN := Lib.hid (show dec l = none by
              unfold dec
              simp only [HD0.out, HD1.out]
              exact if_neg (fun h => h16 (by have := (may_lt h.2.1).2.2.2; omega)))
            have HST := Lib.hid (st_none HZ.out HN.out)
            have hy16 : (65535 : Int) < (y : Int) := by omega
            have hc0 := HX.out.box.c0
            have hc1 := HX.out.box.c1
            have hc2 := HX.out.box.c2
            have hc3 := HX.out.box.c3
            have hf0 := HX.out.f 0
            have hf1 := HX.out.f 1
            have hf2 := HX.out.f 2
            have hf3 := HX.out.f 3
            go_wp2
            rw [HN.out, HST.out]
            refine bodyPost_ret (v := .tuple #[gv none, .int .i64 2]) ?_ rfl ⟨rfl, ?_⟩
            · simp [results, Tryz.results78, go_sem, gv, hc0, hc1, hc2, hc3]
            · exact (((HB.out.setCell (Nat.le_refl _) _).setCell (Nat.le_refl _) _).setCell (Nat.le_refl _) _).setCell (Nat.le_refl _) _
  · have HN := Lib.hid (show dec l = none by
      unfold dec
      exact if_neg (fun h => hl h.1))
    have HST := Lib.hid (st_none (fun h => hl (by rw [h]; rfl)) HN.out)
    have hl' : ¬ (l.length : Int) = 8 := by omega
    go_enter Tryz.func78, Tryz.ntmps78
    go_wp2
    rw [HN.out, HST.out]
    refine bodyPost_ret (v := .tuple #[gv none, .int .i64 2]) ?_ rfl ⟨rfl, ?_⟩
    · simp [results, Tryz.results78, go_sem, gv]
    · exact HB.out
end
end Rec
end Go.Proofs.YtcojgpjappjobaaGreatDoor
/- The chapter's example; RecordEncodes, walked. -/
namespace Go.Proofs.YtcojgpjappjobaaGreatDoor
open Go.RowKit Go.MapKept
namespace Rec
open Lin

theorem nums_ex : nums 2 3 4 = 1125912791875585 := by decide
theorem may_ex : may ((2 : Nat) : Int) ((3 : Nat) : Int) ((4 : Nat) : Int) ((5 : Nat) : Int) = true := by decide

set_option maxHeartbeats 1000000 in
theorem lives_any (w : World) : Calls Tryz.prog 55 #[] w fun r w' => r = .returned (.bool true) ∧ Below w.heap.size w w' := by
  have he : Calls Tryz.prog 99 #[.agg #[.int .i64 2, .int .i64 3, .int .i64 4, .int .i64 5]] w fun r w' => ∃ g : Nat, w.heap.size ≤ g ∧ r = .returned (.tuple #[.slice (some ⟨g, 0, none⟩) 8 8, .int .i64 0]) ∧ w'.rowIs g 85 8 (rowOf (ln 2 3 4 5)) ∧ Below w.heap.size w w' := encode_yes w 2 3 4 5 may_ex
  have HE := Lib.hid he
  have H2 := Lib.hid Crc.lives_any
  have H3 := Lib.hid Pack.lives_any
  clear he
  go_enter Tryz.func55, Tryz.ntmps55
  go_wp2_with fail
  refine HE.out.mono ?_
  rintro e w0 ⟨g, _, rfl, hrow, hb⟩
  have HR1 := Lib.hid hrow
  have HB1 := Lib.hid hb
  clear hrow hb HE
  go_wp2_with fail
  refine (H2.out _).mono ?_
  rintro e w2 ⟨rfl, hb⟩
  have HR2 := Lib.hid (row_keep HR1.out hb)
  have HB2 := Lib.hid (HB1.out.trans (hb.mono HB1.out.size))
  clear hb HR1 HB1
  go_wp2_with fail
  refine (H3.out _).mono ?_
  rintro e w3 ⟨rfl, hb⟩
  have HR3 := Lib.hid (row_keep HR2.out hb)
  have HB3 := Lib.hid (HB2.out.trans (hb.mono HB2.out.size))
  clear hb HR2 HB2
  have hc1 : w3.cell? ⟨g, 0, none⟩ = some (.int .u64 1125912791875585) := by
    rw [HR3.out.cell (i := 0) (by omega)]
    show some (Value.int .u64 ((nums 2 3 4 : Nat) : Int)) = _
    rw [nums_ex]
    rfl
  go_wp2
  go_ret
  exact ⟨rfl, HB3.out⟩

end Rec
end Go.Proofs.YtcojgpjappjobaaGreatDoor
/- The document's words of a text. -/
namespace Go.Proofs.YtcojgpjappjobaaGreatDoor
open Go.RowKit Go.MapKept
namespace Pack

/-- a text's bytes -/
def tx (s : ByteArray) : List Nat := s.data.toList.map UInt8.toNat
theorem tx_len (s : ByteArray) : (tx s).length = s.size := by
  unfold tx
  rw [List.length_map, Array.length_toList]
  rfl
theorem tx_byt (s : ByteArray) : Byt (tx s) := by
  intro b hb
  obtain ⟨x, _, rfl⟩ := List.mem_map.1 hb
  exact x.toNat_lt
theorem tx_get {s : ByteArray} {i : Nat} (h : i < s.size) : at0 (tx s) i = (s[i]'h).toNat := by
  have h' : i < s.data.toList.length := by rw [Array.length_toList]; exact h
  simp only [at0, tx, List.getElem?_map, List.getElem?_eq_getElem h', Option.map_some, Option.getD_some]
  rfl
theorem tx_str {l : List Nat} (h : Byt l) : tx (str l) = l := by
  unfold tx str
  rw [List.map_map]
  refine (List.map_congr_left (fun b hb => ?_)).trans (List.map_id l)
  exact ofNat_toNat (h b hb)

theorem wrds_step {b : List Nat} {m : Nat} (h : m < (wrds b).length) : u64s ((wrds b).take (m + 1)) = u64s ((wrds b).take m) ++ [.int .u64 ((part b m 8 : Nat) : Int)] := by
  rw [List.take_succ_eq_append_getElem h, wrds_get]
  simp only [u64s, List.map_append, List.map_cons, List.map_nil]

theorem up_small {b : List Nat} (h : Byt b) (i : Nat) {n : Nat} (hn : n < 8) : up b i n < 72057594037927936 := Nat.lt_of_lt_of_le (up_lt h i n) (Nat.pow_le_pow_right (n := 256) (j := 7) (by omega) (by omega))

section
variable {w : World}
set_option maxHeartbeats 1600000 in
set_option maxRecDepth 100000 in
theorem refWords_any (s : ByteArray) (hs : s.size ≤ 1000000) :
    Calls Tryz.prog 35 #[.string s] w fun e w' => ∃ (G : Option Addr) (gc : Nat), e = .returned (.slice G (wrds (tx s)).length gc) ∧ Wds w' G (wrds (tx s)) ∧ Below w.heap.size w w' := by
  have hwl : (wrds (tx s)).length = (s.size + 7) / 8 := by rw [wrds_len, tx_len]
  have HWL := Lib.hid hwl
  clear hwl
  go_enter Tryz.func35, Tryz.ntmps35
  go_wp2
  go_loopw [3, 4] (fun v i wr => ∃ (m : Nat) (G : Option Addr) (gc : Nat), m ≤ (wrds (tx s)).length ∧ i = .int .i64 (8 * (m : Int)) ∧ v = .slice G m gc ∧ wr.ownsRow w.heap.size 85 1 (.slice G m gc) m (u64s ((wrds (tx s)).take m)) ∧ Below w.heap.size w wr) (fun _ i _ => s.size + 8 - (intOf i).toNat)
  case atStart => exact ⟨0, none, 0, Nat.zero_le _, rfl, rfl, World.ownsRow_nil _ _ _ _, Below.refl _ _⟩
  case round =>
    obtain ⟨m, G, gc, hm, rfl, rfl, hown, hbel⟩ := hrel
    have hwl := HWL.out
    by_cases hlt : 8 * m < s.size
    · have hmw : m < (wrds (tx s)).length := by omega
      have HSt := Lib.hid (wrds_step hmw)
      have HOW := Lib.hid hown
      have HBW := Lib.hid hbel
      have hsz := hbel.size
      have hlt2 : 8 * (m : Int) < (s.size : Int) := by omega
      clear hown hbel hwl
      go_wp2
      go_loopw [5, 6] (fun x k w2 => ∃ (n : Nat), n ≤ 8 ∧ k = .int .i64 (7 - (n : Int)) ∧ x = .int .u64 ((up (tx s) m n : Nat) : Int) ∧ w2 = wr) (fun _ k _ => ((intOf k) + 1).toNat)
      case atStart => exact ⟨0, Nat.zero_le _, rfl, rfl, rfl⟩
      case round =>
        obtain ⟨n, hn, rfl, rfl, rfl⟩ := hrel
        by_cases h8 : n < 8
        · have hus := up_small (tx_byt s) m h8
          have HUP := Lib.hid (show up (tx s) m (n + 1) = 256 * up (tx s) m n + at0 (tx s) (8 * m + (7 - n)) from rfl)
          have hw1 : IntKind.wrap .u64 (256 * ((up (tx s) m n : Nat) : Int)) = 256 * ((up (tx s) m n : Nat) : Int) := by rw [IntKind.wrap_u64]; omega
          by_cases hin : 8 * m + (7 - n) < s.size
          · have hg := tx_get hin
            have hgl : at0 (tx s) (8 * m + (7 - n)) < 256 := at0_lt (tx_byt s) _
            generalize up (tx s) m n = y at *
            go_wp2
            refine ⟨⟨n + 1, by omega, by go_num, ?_, trivial⟩, by simp [intOf]; omega⟩
            rw [HUP.out, hg]
            simp
          · have hz : at0 (tx s) (8 * m + (7 - n)) = 0 := at0_none (by rw [tx_len]; omega)
            rw [hz, Nat.add_zero] at HUP
            clear hz
            generalize up (tx s) m n = y at *
            go_wp2
            refine ⟨⟨n + 1, by omega, by go_num, ?_, trivial⟩, by simp [intOf]; omega⟩
            rw [HUP.out]
            simp
        · obtain rfl : n = 8 := by omega
          rw [up_word]
          have hpl : part (tx s) m 8 < 18446744073709551616 := part_lt (tx_byt s) m 8
          generalize part (tx s) m 8 = y at *
          obtain ⟨i1, hi1, hy0, hy1, hy2⟩ := info_parts u64_info
          have HO := Lib.hid (HOW.out.alloc (.cells #[.int .u64 (y : Int)] 85))
          have HB := Lib.hid (HBW.out.alloc HBW.out.size (.cells #[.int .u64 (y : Int)] 85))
          have hml : m ≤ 1000000 := by have := HWL.out; omega
          go_wp2_with (at_builtin
                       refine wpList_append_own_at _ rfl (.tmp 33) (.tmp 35) 22 rfl w.heap.size 85 i1 (.int .u64 0) 1 8 Tryz.underlying22 hi1 hy0 hy1 hy2 rfl (by decide) (.slice G m gc) m (u64s ((wrds (tx s)).take m)) rfl HO.out ⟨wr.heap.size, 0, none⟩ 1 1 [.int .u64 (y : Int)] rfl rfl (cell_one_new _ _ _) (by simp [Value.oneCell']) (by unfold maxLen; omega) (by omega) (by simp; omega) ?_
                       intro v' w3 hown3 hgr3 _ hat3
                       obtain ⟨G3, c3, rfl⟩ := row_slice hown3
                       have HO3 := Lib.hid hown3
                       have HB3 := Lib.hid (HB.out.grown hgr3 (by simp; omega) (fun k hk => row_base_lt HOW.out hk))
                       clear hown3 hgr3 hat3)
          refine ⟨⟨m + 1, G3, c3, by omega, by go_num, rfl, ?_, HB3.out⟩, by simp [intOf]; omega⟩
          rw [HSt.out]
          exact HO3.out
    · obtain rfl : m = (wrds (tx s)).length := by omega
      rw [List.take_length] at hown
      have HW := Lib.hid (own_wds hown (wrds_u64 (tx_byt s)) (by omega))
      have HB := Lib.hid hbel
      have hlt2 : ¬ 8 * ((wrds (tx s)).length : Int) < (s.size : Int) := by omega
      clear hown hbel hwl
      go_wp2
      go_ret
      exact ⟨G, ⟨gc, rfl⟩, HW.out, HB.out⟩
end
end Pack
end Go.Proofs.YtcojgpjappjobaaGreatDoor
/- A volume's words, of no program: words stored one behind the other, words read from one on, the lines of words that follow each other. -/
namespace Go.Proofs.YtcojgpjappjobaaGreatDoor
open Go.RowKit Go.MapKept
namespace Vol

/-- words stored one behind the other -/
def puts (W : List Nat) (l : List (Nat × Nat)) : List Nat := l.foldl (fun W p => W.set p.1 p.2) W
/-- the stores that make the words from one on these -/
def sto (at0 : Nat) (l : List Nat) : List (Nat × Nat) := (List.range l.length).map fun k => (at0 + k, l[k]?.getD 0)
/-- so many words from one on -/
def rdw (W : List Nat) (at0 n : Nat) : List Nat := (List.range n).map fun i => W[at0 + i]?.getD 0

theorem puts_nil (W : List Nat) : puts W [] = W := rfl
theorem puts_snoc (W : List Nat) (l : List (Nat × Nat)) (p : Nat × Nat) : puts W (l ++ [p]) = (puts W l).set p.1 p.2 := by
  unfold puts
  rw [List.foldl_append]
  rfl
theorem puts_step (W : List Nat) (l : List (Nat × Nat)) (k : Nat) (h : k < l.length) : puts W (l.take (k + 1)) = (puts W (l.take k)).set l[k].1 l[k].2 := by
  rw [List.take_succ_eq_append_getElem h, puts_snoc]
theorem puts_len (W : List Nat) (l : List (Nat × Nat)) : (puts W l).length = W.length := by
  induction l generalizing W with
  | nil => rfl
  | cons p r ih =>
    show (puts (W.set p.1 p.2) r).length = _
    rw [ih, List.length_set]
theorem puts_u64 {W : List Nat} {l : List (Nat × Nat)} (hW : ∀ x ∈ W, x < 18446744073709551616) (hl : ∀ p ∈ l, p.2 < 18446744073709551616) : ∀ x ∈ puts W l, x < 18446744073709551616 := by
  induction l generalizing W with
  | nil => exact hW
  | cons p r ih =>
    show ∀ x ∈ puts (W.set p.1 p.2) r, _
    refine ih ?_ (fun q hq => hl q (.tail _ hq))
    intro x hx
    rcases List.mem_or_eq_of_mem_set hx with h | h
    · exact hW x h
    · rw [h]; exact hl p (.head _)

theorem sto_len (at0 : Nat) (l : List Nat) : (sto at0 l).length = l.length := by simp [sto]
theorem sto_get (at0 : Nat) (l : List Nat) (k : Nat) (h : k < (sto at0 l).length) : (sto at0 l)[k] = (at0 + k, l[k]?.getD 0) := by simp [sto]
theorem sto_lt {at0 L : Nat} {l : List Nat} (h : at0 + l.length ≤ L) : ∀ p ∈ sto at0 l, p.1 < L := by
  intro p hp
  obtain ⟨k, hk, rfl⟩ := List.mem_map.1 hp
  rw [List.mem_range] at hk
  simp only
  omega
theorem sto_u64 {at0 : Nat} {l : List Nat} (h : ∀ x ∈ l, x < 18446744073709551616) : ∀ p ∈ sto at0 l, p.2 < 18446744073709551616 := by
  intro p hp
  obtain ⟨k, hk, rfl⟩ := List.mem_map.1 hp
  rw [List.mem_range] at hk
  simp only
  rw [List.getElem?_eq_getElem hk]
  exact h _ (List.getElem_mem hk)
theorem sto_one (at0 x : Nat) : sto at0 [x] = [(at0, x)] := rfl

theorem puts_get (W : List Nat) (at0 : Nat) (l : List Nat) (h : at0 + l.length ≤ W.length) (k : Nat) (hk : k ≤ l.length) (j : Nat) :
    (puts W ((sto at0 l).take k))[j]?.getD 0 = if at0 ≤ j ∧ j < at0 + k then l[j - at0]?.getD 0 else W[j]?.getD 0 := by
  induction k with
  | zero => rw [List.take_zero, puts_nil, if_neg (by omega)]
  | succ k ih =>
    have hk2 : k < (sto at0 l).length := by rw [sto_len]; omega
    rw [puts_step W _ k hk2, sto_get]
    simp only
    by_cases e : j = at0 + k
    · subst e
      rw [List.getElem?_set_self (by rw [puts_len]; omega), if_pos (by omega), Nat.add_sub_cancel_left]
      rfl
    · rw [List.getElem?_set_ne (by omega), ih (by omega)]
      by_cases h1 : at0 ≤ j ∧ j < at0 + k
      · rw [if_pos h1, if_pos (by omega)]
      · rw [if_neg h1, if_neg (by omega)]
theorem putw_get (W : List Nat) (at0 : Nat) (l : List Nat) (h : at0 + l.length ≤ W.length) (j : Nat) :
    (puts W (sto at0 l))[j]?.getD 0 = if at0 ≤ j ∧ j < at0 + l.length then l[j - at0]?.getD 0 else W[j]?.getD 0 := by
  have := puts_get W at0 l h l.length (Nat.le_refl _) j
  rwa [List.take_of_length_le (by rw [sto_len]; exact Nat.le_refl _)] at this

theorem rdw_len (W : List Nat) (at0 n : Nat) : (rdw W at0 n).length = n := by simp [rdw]
theorem rdw_get (W : List Nat) (at0 n k : Nat) (h : k < (rdw W at0 n).length) : (rdw W at0 n)[k] = W[at0 + k]?.getD 0 := by simp [rdw]
theorem rdw_u64 {W : List Nat} (h : ∀ x ∈ W, x < 18446744073709551616) (at0 n : Nat) : ∀ x ∈ rdw W at0 n, x < 18446744073709551616 := by
  intro x hx
  obtain ⟨k, _, rfl⟩ := List.mem_map.1 hx
  rcases Nat.lt_or_ge (at0 + k) W.length with h1 | h1
  · rw [List.getElem?_eq_getElem h1]
    exact h _ (List.getElem_mem h1)
  · rw [List.getElem?_eq_none h1]
    decide
/-- what was written is read -/
theorem rdw_puts (W : List Nat) (at0 : Nat) (l : List Nat) (h : at0 + l.length ≤ W.length) : rdw (puts W (sto at0 l)) at0 l.length = l := by
  refine List.ext_getElem (by rw [rdw_len]) (fun i h1 h2 => ?_)
  rw [rdw_get, putw_get W at0 l h, if_pos (by omega), Nat.add_sub_cancel_left, List.getElem?_eq_getElem h2]
  rfl
theorem rdw_slice {W : List Nat} {at0 n : Nat} (h : at0 + n ≤ W.length) : rdw W at0 n = (W.drop at0).take n := by
  refine List.ext_getElem (by rw [rdw_len]; simp; omega) (fun i h1 h2 => ?_)
  rw [rdw_len] at h1
  rw [rdw_get, List.getElem_take, List.getElem_drop, List.getElem?_eq_getElem (by omega)]
  rfl

/-- the lines of stores, each once -/
def lin (l : List (Nat × Nat)) : List Int := l.map fun p => ((p.1 / 8 : Nat) : Int)
def lns (l : List (Nat × Nat)) : List Int := Lib.compact (lin l)
theorem lin_len (l : List (Nat × Nat)) : (lin l).length = l.length := by simp [lin]
theorem lin_get (l : List (Nat × Nat)) (k : Nat) (h : k < (lin l).length) : (lin l)[k] = ((l[k]'(by rwa [lin_len] at h)).1 / 8 : Nat) := by simp [lin]
/-- the lines of words that follow each other: where one begins another is counted -/
def lc (at0 : Nat) : Nat → Nat
  | 0 => 0
  | k + 1 => lc at0 k + if k = 0 ∨ (at0 + k) % 8 = 0 then 1 else 0
theorem lc_le (at0 : Nat) : ∀ k, lc at0 k ≤ k
  | 0 => Nat.le_refl _
  | k + 1 => by
    have := lc_le at0 k
    unfold lc
    split <;> omega
theorem upto_mem {α : Type} [Inhabited α] [DecidableEq α] (d : Array α) : ∀ m, m ≤ d.size → ∀ x ∈ Lib.compactUpTo d m, x ∈ d.toList := by
  intro m hm x hx
  unfold Lib.compactUpTo at hx
  obtain ⟨j, hj, rfl⟩ := List.mem_map.1 hx
  have hj := List.mem_range.1 (List.mem_filter.1 hj).1
  rw [getElem!_pos d j (by omega)]
  simp
theorem lns_mem (l : List (Nat × Nat)) : ∀ x ∈ lns l, ∃ p ∈ l, x = ((p.1 / 8 : Nat) : Int) := by
  intro x hx
  have := upto_mem (lin l).toArray (lin l).length (by simp) x hx
  simp only at this
  obtain ⟨p, hp, rfl⟩ := List.mem_map.1 this
  exact ⟨p, hp, rfl⟩
theorem lns_le (l : List (Nat × Nat)) : (lns l).length ≤ l.length := by
  unfold lns Lib.compact Lib.compactUpTo
  rw [List.length_map]
  refine Nat.le_trans (List.length_filter_le _ _) ?_
  rw [List.length_range, lin_len]
  exact Nat.le_refl _
theorem sto_lc (at0 : Nat) (l : List Nat) : (lns (sto at0 l)).length = lc at0 l.length := by
  have key : ∀ m, m ≤ l.length → (Lib.compactUpTo (lin (sto at0 l)).toArray m).length = lc at0 m := by
    intro m
    induction m with
    | zero => intro _; rfl
    | succ m ih =>
      intro hm
      have hg : ∀ j, j < l.length → (lin (sto at0 l)).toArray[j]! = (((at0 + j) / 8 : Nat) : Int) := by
        intro j hj
        have h1 : j < (lin (sto at0 l)).length := by rw [lin_len, sto_len]; exact hj
        rw [getElem!_pos _ j (by simpa using h1), List.getElem_toArray, lin_get, sto_get]
      rw [Lib.compactUpTo_succ, List.length_append, ih (by omega)]
      show _ = lc at0 m + if m = 0 ∨ (at0 + m) % 8 = 0 then 1 else 0
      congr 1
      have hk : Lib.keeps (lin (sto at0 l)).toArray m = decide (m = 0 ∨ (at0 + m) % 8 = 0) := by
        unfold Lib.keeps
        rcases Nat.eq_zero_or_pos m with h0 | h0
        · subst h0; simp
        · rw [hg m (by omega), hg (m - 1) (by omega)]
          refine decide_eq_decide.2 ?_
          omega
      rw [hk]
      by_cases h : m = 0 ∨ (at0 + m) % 8 = 0
      · rw [if_pos h, decide_eq_true h]; rfl
      · rw [if_neg h, decide_eq_false h]; rfl
  have := key l.length (Nat.le_refl _)
  unfold lns Lib.compact
  rw [lin_len, sto_len]
  exact this
end Vol
end Go.Proofs.YtcojgpjappjobaaGreatDoor
/- A device beside what a call keeps: Vd (the device's blocks lie apart from the blocks of Q), Up (its words, its steps, its stores; it isn't down), and its calls. -/
namespace Go.Proofs.YtcojgpjappjobaaGreatDoor
open Go.RowKit Go.MapKept
namespace Vol

/-- the device at block a is A; none of its blocks is one of Q, which lie there -/
def Vd (Q : Nat → Prop) (w : World) (a : Nat) (A : Pm.Abs) : Prop :=
  ∃ D, Pm.Rep w a D ∧ D.abs = A ∧ A.Ok ∧ (∀ k, Pm.Foot a D k → ¬ Q k) ∧ ∀ k, Q k → k < w.heap.size
/-- the blocks of Q are as they were -/
abbrev Kq (Q : Nat → Prop) (w w' : World) : Prop := Pm.Off (fun k => ¬ Q k) w w'

section
variable {Q Q' : Nat → Prop} {w w' w'' : World} {a : Nat} {A A' : Pm.Abs}
theorem Kq.trans (h : Kq Q w w') (k : Kq Q w' w'') : Kq Q w w'' := Pm.Off.trans h k (fun _ _ h => h)
theorem Kq.sub (h : Kq Q' w w') (hs : ∀ k, Q k → Q' k) : Kq Q w w' := h.mono (fun b _ hn hq => hn (hs b hq))
theorem Kq.at (h : Kq Q w w') {k : Nat} (hq : Q k) (hk : k < w.heap.size) : w'.heap[k]? = w.heap[k]? := h.block k hk (fun hn => hn hq)
theorem kq_below (h : Below w.heap.size w w') : Kq Q w w' := ⟨h.os, h.tape, h.output, h.size, fun k hk _ => h.block k hk⟩
theorem Kq.below {B : Nat} (h : Kq Q w w') (hB : B ≤ w.heap.size) (hq : ∀ k, k < B → Q k) : Below B w w' :=
  ⟨h.os, h.tape, h.output, h.size, fun k hk => h.block k (by omega) (fun hn => hn (hq k hk))⟩

theorem Vd.lt (h : Vd Q w a A) : ∀ k, Q k → k < w.heap.size := by
  obtain ⟨_, _, _, _, _, h⟩ := h; exact h
theorem Vd.ok (h : Vd Q w a A) : A.Ok := by
  obtain ⟨_, _, _, h, _⟩ := h; exact h
theorem Vd.keep (h : Vd Q w a A) (hb : Below w.heap.size w w') : Vd Q w' a A := by
  obtain ⟨D, hrep, e, ok, hf, hq⟩ := h
  exact ⟨D, hrep.keep (fun k hk => hb.block k (hrep.foot_lt hk)), e, ok, hf, fun k hk => Nat.lt_of_lt_of_le (hq k hk) hb.size⟩
/-- what was made since is kept, too -/
theorem Vd.grow (h : Vd Q w a A) (hb : Below w.heap.size w w') : Vd (fun k => Q k ∨ (w.heap.size ≤ k ∧ k < w'.heap.size)) w' a A := by
  obtain ⟨D, hrep, e, ok, hf, hq⟩ := h
  refine ⟨D, hrep.keep (fun k hk => hb.block k (hrep.foot_lt hk)), e, ok, fun k hk hn => ?_, fun k hk => ?_⟩
  · rcases hn with hn | hn
    · exact hf k hk hn
    · have := hrep.foot_lt hk; omega
  · rcases hk with hk | hk
    · exact Nat.lt_of_lt_of_le (hq k hk) hb.size
    · exact hk.2
theorem Vd.sub (h : Vd Q w a A) (hs : ∀ k, Q' k → Q k) : Vd Q' w a A := by
  obtain ⟨D, hrep, e, ok, hf, hq⟩ := h
  exact ⟨D, hrep, e, ok, fun k hk hn => hf k hk (hs k hn), fun k hk => hq k (hs k hk)⟩
theorem vd_step {D D' : Pm.Dev} (hf : ∀ k, Pm.Foot a D k → ¬ Q k) (hq : ∀ k, Q k → k < w.heap.size) (hr : Pm.Res w a D w' D') (ha : D'.abs = A') (hok : A'.Ok) : Vd Q w' a A' ∧ Kq Q w w' := by
  refine ⟨⟨D', hr.rep, ha, hok, fun k hk hn => ?_, fun k hk => Nat.lt_of_lt_of_le (hq k hk) hr.off.size⟩, hr.off.mono (fun b _ hb => hf b hb)⟩
  rcases hr.foot k hk with h | h
  · exact hf k h hn
  · have := hq k hn; omega
theorem Vd.ses (h : Vd Q w a A) : Pm.Ses 0 w w a A := by
  obtain ⟨D, hrep, e, ok, hf, hq⟩ := h
  exact ⟨D, hrep, e, ok, Below.refl _ _, fun _ _ => Nat.zero_le _, Nat.zero_le _⟩

/-- a device that isn't armed: its words, its steps, its stores -/
def Up (Q : Nat → Prop) (w : World) (a : Nat) (W : List Nat) (st sn : Nat) : Prop :=
  ∃ A : Pm.Abs, Vd Q w a A ∧ A.armed = false ∧ A.words = W.map Int.ofNat ∧ (∀ x ∈ W, x < 18446744073709551616) ∧ A.steps = st ∧ A.stores = sn
variable {W : List Nat} {st sn : Nat}
theorem Up.lt (h : Up Q w a W st sn) : ∀ k, Q k → k < w.heap.size := by
  obtain ⟨A, h, _⟩ := h; exact h.lt
theorem Up.u64 (h : Up Q w a W st sn) : ∀ x ∈ W, x < 18446744073709551616 := by
  obtain ⟨A, _, _, _, h, _⟩ := h; exact h
theorem Up.size (h : Up Q w a W st sn) : W.length ≤ 4194304 := by
  obtain ⟨A, h, _, e, _⟩ := h
  have := h.ok.size
  rw [e] at this
  simpa using this
theorem Up.keep (h : Up Q w a W st sn) (hb : Below w.heap.size w w') : Up Q w' a W st sn := by
  obtain ⟨A, h, r⟩ := h; exact ⟨A, h.keep hb, r⟩
theorem Up.grow (h : Up Q w a W st sn) (hb : Below w.heap.size w w') : Up (fun k => Q k ∨ (w.heap.size ≤ k ∧ k < w'.heap.size)) w' a W st sn := by
  obtain ⟨A, h, r⟩ := h; exact ⟨A, h.grow hb, r⟩
theorem Up.sub (h : Up Q w a W st sn) (hs : ∀ k, Q' k → Q k) : Up Q' w a W st sn := by
  obtain ⟨A, h, r⟩ := h; exact ⟨A, h.sub hs, r⟩
/-- a block of Q may be set -/
theorem Up.put (h : Up Q w a W st sn) {p : Addr} (hp : Q p.block) (v : Value) : Up Q (w.setCell p v) a W st sn := by
  obtain ⟨A, ⟨D, hrep, e, ok, hf, hq⟩, r⟩ := h
  refine ⟨A, ⟨D, hrep.keep (fun k hk => Below.heap_setCell _ _ _ _ (fun e => hf k hk (by rw [e]; exact hp))), e, ok, hf, fun k hk => ?_⟩, r⟩
  have := hq k hk
  simpa [World.setCell] using this
theorem wds_block {w w' : World} {g : Nat} {l : List Nat} (h : Pack.Wds w (some ⟨g, 0, none⟩) l) (e : w'.heap[g]? = w.heap[g]?) : Pack.Wds w' (some ⟨g, 0, none⟩) l :=
  ⟨h.u64, h.len, fun j hj => by
    obtain ⟨b, o, e1, h1, h2⟩ := h.at' j hj
    injection e1 with e1
    injection e1 with e1 e2
    subst e1 e2
    refine ⟨g, 0, rfl, Pm.lt_of_some (e.trans (Array.getElem?_eq_getElem h1)), (World.cell?_of_block (w := w) e).trans h2⟩⟩
theorem abs_down (h : A.armed = false) : A.down = false := by unfold Pm.Abs.down; rw [h]; rfl

theorem up_load (h : Up Q w a W st sn) (k : Nat) : Calls Tryz.prog 67 #[.pointer (some ⟨a, 0, none⟩), .int .i64 (k : Int)] w fun r w' => r = .returned (.int .u64 ((W[k]?.getD 0 : Nat) : Int)) ∧ w = w' := by
  obtain ⟨A, hv, hu, hw, _⟩ := h
  refine (Pm.ses_load hv.ses (k : Int)).mono ?_
  rintro r w' ⟨rfl, rfl⟩
  refine ⟨?_, rfl⟩
  congr 2
  unfold Pm.Abs.has
  rw [hw]
  by_cases hk : k < W.length
  · rw [if_pos (by simp; exact hk)]
    simp [List.getElem?_eq_getElem hk]
  · rw [if_neg (by simp; omega), List.getElem?_eq_none (by omega)]
    rfl

theorem up_store (h : Up Q w a W st sn) (k x : Nat) (hk : k < W.length) (hx : x < 18446744073709551616) (hs : st + 1 < 100000000000) :
    Calls Tryz.prog 128 #[.pointer (some ⟨a, 0, none⟩), .int .i64 (k : Int), .int .u64 (x : Int)] w fun r w' => r = .returned (.bool true) ∧ Up Q w' a (W.set k x) (st + 1) (sn + 1) ∧ Kq Q w w' := by
  obtain ⟨A, ⟨D, hrep, rfl, hok, hf, hq⟩, hu, hw, h64, h1, h2⟩ := h
  have hkl : k < D.abs.words.length := by rw [hw]; simpa using hk
  refine (Pm.store_any hrep hok (abs_down hu) k (x : Int) hkl).mono ?_
  rintro r w' ⟨rfl, D', hres, ha⟩
  have hst : D.abs.steps + 1 < 100000000000 := by omega
  obtain ⟨g1, g2⟩ := vd_step hf hq hres ha (Pm.store_ok hok hkl (x : Int) hst)
  refine ⟨rfl, ⟨_, g1, ?_, ?_, ?_, ?_, ?_⟩, g2⟩
  · exact hu
  · show D.abs.words.set k (x : Int) = _
    rw [hw, List.map_set]
    rfl
  · intro y hy
    rcases List.mem_or_eq_of_mem_set hy with h | h
    · exact h64 y h
    · rw [h]; exact hx
  · show D.abs.steps + 1 = _
    rw [h1]
  · show D.abs.stores + 1 = _
    rw [h2]

theorem mark_same (A : Pm.Abs) (k : Nat) : (A.mark k).words = A.words ∧ (A.mark k).armed = A.armed ∧ (A.mark k).steps = A.steps ∧ (A.mark k).stores = A.stores := by
  unfold Pm.Abs.mark
  cases Pm.pget A.pend k with
  | none => exact ⟨rfl, rfl, rfl, rfl⟩
  | some v => exact ⟨rfl, rfl, rfl, rfl⟩
theorem marks_same (A : Pm.Abs) (k : Nat) : ∀ n, (A.marks k n).words = A.words ∧ (A.marks k n).armed = A.armed ∧ (A.marks k n).steps = A.steps ∧ (A.marks k n).stores = A.stores := by
  intro n
  induction n with
  | zero => exact ⟨rfl, rfl, rfl, rfl⟩
  | succ n ih =>
    have e : A.marks k (n + 1) = (A.marks k n).mark (k + n) := rfl
    rw [e]
    obtain ⟨h1, h2, h3, h4⟩ := mark_same (A.marks k n) (k + n)
    exact ⟨h1.trans ih.1, h2.trans ih.2.1, h3.trans ih.2.2.1, h4.trans ih.2.2.2⟩

theorem up_flush (h : Up Q w a W st sn) (k : Nat) (hk : 8 * k < W.length) (hs : st + 1 < 100000000000) :
    Calls Tryz.prog 130 #[.pointer (some ⟨a, 0, none⟩), .int .i64 (k : Int)] w fun r w' => r = .returned (.bool true) ∧ Up Q w' a W (st + 1) sn ∧ Kq Q w w' := by
  obtain ⟨A, ⟨D, hrep, rfl, hok, hf, hq⟩, hu, hw, h64, h1, h2⟩ := h
  have hkl : 8 * k < D.words.length := by
    have e : D.words.length = W.length := by
      have e : D.words = W.map Int.ofNat := hw
      rw [e, List.length_map]
    omega
  have hst : D.abs.steps + 1 < 100000000000 := by omega
  refine (Pm.flush_yes hrep hok (abs_down hu) k hkl hst).mono ?_
  rintro r w' ⟨rfl, D', hres, ha⟩
  obtain ⟨g1, g2⟩ := vd_step hf hq hres ha (Pm.flush_ok hok k hst)
  have hm := marks_same D.abs.step (8 * k) (min 8 (D.abs.words.length - 8 * k))
  refine ⟨rfl, ⟨_, g1, ?_, ?_, h64, ?_, ?_⟩, g2⟩
  · exact hm.2.1.trans hu
  · exact hm.1.trans hw
  · refine hm.2.2.1.trans ?_
    show D.abs.steps + 1 = _
    rw [h1]
  · exact hm.2.2.2.trans h2

theorem settle_same (A : Pm.Abs) (k : Nat) : (A.settle k).words = A.words ∧ (A.settle k).armed = A.armed ∧ (A.settle k).steps = A.steps ∧ (A.settle k).stores = A.stores := by
  unfold Pm.Abs.settle
  cases Pm.pget A.pend k with
  | none => exact ⟨rfl, rfl, rfl, rfl⟩
  | some v =>
    obtain ⟨vs, m⟩ := v
    simp only
    split <;> exact ⟨rfl, rfl, rfl, rfl⟩
theorem settles_same : ∀ (l : List Nat) (A : Pm.Abs), (A.settles l).words = A.words ∧ (A.settles l).armed = A.armed ∧ (A.settles l).steps = A.steps ∧ (A.settles l).stores = A.stores
  | [], _ => ⟨rfl, rfl, rfl, rfl⟩
  | k :: r, A => by
    obtain ⟨h1, h2, h3, h4⟩ := settles_same r (A.settle k)
    obtain ⟨g1, g2, g3, g4⟩ := settle_same A k
    exact ⟨h1.trans g1, h2.trans g2, h3.trans g3, h4.trans g4⟩

theorem up_fence (h : Up Q w a W st sn) (hs : st + 1 < 100000000000) :
    Calls Tryz.prog 100 #[.pointer (some ⟨a, 0, none⟩)] w fun r w' => r = .returned (.bool true) ∧ Up Q w' a W (st + 1) sn ∧ Kq Q w w' := by
  obtain ⟨A, ⟨D, hrep, rfl, hok, hf, hq⟩, hu, hw, h64, h1, h2⟩ := h
  have hst : D.abs.steps + 1 < 100000000000 := by omega
  refine (Pm.fence_yes hrep hok (abs_down hu) hst).mono ?_
  rintro r w' ⟨rfl, D', hres, ha⟩
  obtain ⟨g1, g2⟩ := vd_step hf hq hres ha (Pm.fence_ok hok hst)
  have hm := settles_same D.abs.marked D.abs.step
  refine ⟨rfl, ⟨_, g1, ?_, ?_, h64, ?_, ?_⟩, g2⟩
  · exact hm.2.1.trans hu
  · exact hm.1.trans hw
  · refine hm.2.2.1.trans ?_
    show D.abs.steps + 1 = _
    rw [h1]
  · exact hm.2.2.2.trans h2

theorem up_len (h : Up Q w a W st sn) : Calls Tryz.prog 151 #[.pointer (some ⟨a, 0, none⟩)] w fun r w' => r = .returned (.int .i64 (W.length : Int)) ∧ w = w' := by
  obtain ⟨A, hv, hu, hw, _⟩ := h
  have := Pm.ses_len hv.ses
  rw [hw, List.length_map] at this
  exact this

theorem up_steps (h : Up Q w a W st sn) : Calls Tryz.prog 45 #[.pointer (some ⟨a, 0, none⟩)] w fun r w' => r = .returned (.int .i64 (st : Int)) ∧ w = w' := by
  obtain ⟨A, ⟨D, hrep, rfl, _⟩, _, _, _, h1, _⟩ := h
  have c0 := hrep.cell 0
  simp only [Pm.Dev.cells] at c0
  have h1 : D.steps = st := h1
  rw [h1] at c0
  clear hrep h1
  go_enter Tryz.func45, Tryz.ntmps45
  go_wp2
  go_ret
  exact ⟨rfl, rfl⟩
theorem up_stores (h : Up Q w a W st sn) : Calls Tryz.prog 44 #[.pointer (some ⟨a, 0, none⟩)] w fun r w' => r = .returned (.int .i64 (sn : Int)) ∧ w = w' := by
  obtain ⟨A, ⟨D, hrep, rfl, _⟩, _, _, _, _, h1⟩ := h
  have c0 := hrep.cell 1
  simp only [Pm.Dev.cells] at c0
  have h1 : D.stores = sn := h1
  rw [h1] at c0
  clear hrep h1
  go_enter Tryz.func44, Tryz.ntmps44
  go_wp2
  go_ret
  exact ⟨rfl, rfl⟩

theorem u64s_map (l : List Nat) : Pm.u64s (l.map Int.ofNat) = Pack.u64s l := by
  unfold Pm.u64s Pack.u64s
  rw [List.map_map]
  rfl
/-- words in a row of the call's own -/
def Row (w w' : World) (r : Ending) (l : List Nat) : Prop :=
  ∃ g c : Nat, r = .returned (.slice (some ⟨g, 0, none⟩) l.length c) ∧ w.heap.size ≤ g ∧ Pack.Wds w' (some ⟨g, 0, none⟩) l ∧ Below w.heap.size w w'

theorem off_below {w w' : World} (h : Pm.Off (fun _ => False) w w') : Below w.heap.size w w' := ⟨h.os, h.tape, h.output, h.size, fun k hk => h.block k hk id⟩

set_option maxRecDepth 100000 in
theorem up_words (h : Up Q w a W st sn) (h0 : 0 < W.length) : Calls Tryz.prog 14 #[.pointer (some ⟨a, 0, none⟩)] w fun r w' => Row w w' r W := by
  have hsz := h.size
  have h64 := h.u64
  obtain ⟨A, ⟨D, hrep, rfl, _⟩, _, hw, _⟩ := h
  have hw : D.words = W.map Int.ofNat := hw
  have c4 := hrep.c4
  have hcl := Pm.clone_any (w := w) ⟨D.wb, 0, none⟩ D.wcap D.words (Pm.lt_of_some hrep.wds) (by rw [hw, List.length_map]; omega) (fun j u hu => by
    have hj := (List.getElem?_eq_some_iff.1 hu).1
    rw [Addr.add_lit, Pm.blk_cell hrep.wds, List.getElem?_toArray, Nat.zero_add, List.getElem?_append_left hj]
    exact hu)
  have HC := Lib.hid hcl
  have HW := Lib.hid hw
  clear hcl hrep hw
  go_enter Tryz.func14, Tryz.ntmps14
  go_wp2_with fail
  refine HC.out.mono ?_
  rintro r w1 ⟨v, rfl, hown, hoff⟩
  rw [HW.out, u64s_map, List.length_map] at hown
  obtain ⟨g, c, rfl⟩ := Pm.row_form hown h0
  have hb := Pack.row_base_lt hown (g := g) rfl
  have HO := Lib.hid hown
  have HF := Lib.hid hoff
  clear hown hoff HC
  go_wp2
  go_ret
  exact ⟨g, c, rfl, hb, Pack.own_wds HO.out h64 (by omega), off_below HF.out⟩
end
end Vol
end Go.Proofs.YtcojgpjappjobaaGreatDoor
/- pm.Of: a device of words. -/
namespace Go.Proofs.YtcojgpjappjobaaGreatDoor
open Go.RowKit Go.MapKept
namespace Vol
section
variable {w : World}

theorem own_room (G : Option Addr) (n m : Nat) : Calls Tryz.prog 142 #[.slice G n m] w fun e w' => e = .returned (.pointer (some ⟨w.heap.size + 1, 0, none⟩)) ∧
    w' = (w.alloc (.map #[] 0)).alloc (.cells #[.int .i64 0, .int .i64 0, .bool false, .int .i64 0, .slice G n m, .map (some w.heap.size), .slice none 0 0] 109) := by
  have hmm := @run_makeMap Tryz.prog
  go_enter Tryz.func142, Tryz.ntmps142
  go_wp2
  go_ret
  exact ⟨rfl, rfl⟩

/-- a device of words that lie in a row of the call's own -/
theorem rep_of {w1 : World} {g c : Nat} {l : List Int} (h : w1.ownsRow w.heap.size 85 1 (.slice (some ⟨g, 0, none⟩) l.length c) l.length (Pm.u64s l)) :
    ∃ D, D.abs = ⟨0, 0, false, 0, l, [], []⟩ ∧ Pm.Rep ((w1.alloc (.map #[] 0)).alloc (.cells #[.int .i64 0, .int .i64 0, .bool false, .int .i64 0, .slice (some ⟨g, 0, none⟩) l.length c, .map (some w1.heap.size), .slice none 0 0] 109)) (w1.heap.size + 1) D ∧
      ∀ k, Pm.Foot (w1.heap.size + 1) D k → w.heap.size ≤ k := by
  rcases h.2 with ⟨e, _⟩ | ⟨g', c', cur, e, hb, hg, hn, hm, hs, ht⟩
  · cases e
  injection e with e1 _ e3
  injection e1 with e1
  injection e1 with e1
  subst e1 e3
  simp only [Nat.mul_one] at hs ht
  have hglt := Pm.lt_of_some hg
  have hcur : (Pm.u64s l ++ cur.toList.drop l.length).toArray = cur := by
    apply Array.toList_inj.1
    rw [← ht]
    exact List.take_append_drop _ _
  refine ⟨{ steps := 0, stores := 0, armed := false, left := 0, words := l, ents := [], marked := [], wb := g, mb := w1.heap.size, clock := 0, mka := none, mkc := 0, wcap := c, spare := cur.toList.drop l.length }, rfl, ?_, ?_⟩
  · refine ⟨?_, ?_, ?_, by simp, ⟨by simp [Pm.i64s], .inl ⟨rfl, rfl⟩⟩, by simp, by simp, by simp [Pm.Stamp]⟩
    · have := (heap_alloc (w1.alloc (.map #[] 0)) (.cells #[.int .i64 0, .int .i64 0, .bool false, .int .i64 0, .slice (some ⟨g, 0, none⟩) l.length c, .map (some w1.heap.size), .slice none 0 0] 109)).1
      rw [World.size_alloc] at this
      exact this
    · show _ = some (Obj.cells (Pm.u64s l ++ cur.toList.drop l.length).toArray 85 (0, 0))
      rw [hcur]
      exact Pm.blk_alloc (Pm.blk_alloc hg _) _
    · exact Pm.blk_alloc (heap_alloc w1 _).1 _
  · rintro k (rfl | rfl | rfl | hk | hk)
    · omega
    · exact hb
    · show w.heap.size ≤ w1.heap.size
      omega
    · simp at hk
    · simp [Pm.Dev.mkv, Value.ownBlock] at hk

set_option maxHeartbeats 4000000 in
set_option maxRecDepth 100000 in
theorem of_any (g c : Nat) (l : List Nat) (h : Pack.Wds w (some ⟨g, 0, none⟩) l) (hg : g < w.heap.size) (hc : l.length ≤ c) (h0 : 0 < l.length) (hl : l.length ≤ 4194304) :
    Calls Tryz.prog 103 #[.slice (some ⟨g, 0, none⟩) l.length c] w fun r w' => ∃ a, r = .returned (.pointer (some ⟨a, 0, none⟩)) ∧ Up (fun k => k < w.heap.size) w' a l 0 0 ∧ Below w.heap.size w w' := by
  have hcl := fun n => Pm.clone_any (w := w) ⟨g, 0, none⟩ n (l.map Int.ofNat) hg (by rw [List.length_map]; omega) (fun j u hu => by
    rw [Addr.add_lit]
    unfold Pm.u64s at hu
    rw [List.map_map, List.getElem?_map] at hu
    rcases Nat.lt_or_ge j l.length with h1 | h1
    · obtain ⟨b, o, e, _, hc⟩ := h.at' j h1
      injection e with e
      injection e with e1 e2
      subst e1 e2
      rw [List.getElem?_eq_getElem h1] at hu
      rw [hc]
      exact hu
    · rw [List.getElem?_eq_none h1] at hu
      cases hu)
  rw [List.length_map] at hcl
  have HC := Lib.hid hcl
  have H64 := Lib.hid h.u64
  have HO := Lib.hid (fun (w : World) G n m => @own_room w G n m)
  have hmin : min (l.length : Int) 4194304 = (l.length : Int) := by omega
  have HMIN := Lib.hid hmin
  clear hcl h hg hmin
  go_enter Tryz.func103, Tryz.ntmps103
  go_wp2_with fail
  try rw [HMIN.out, Int.toNat_natCast]
  refine (HC.out _).mono ?_
  rintro r w1 ⟨v, rfl, hown, hoff⟩
  rw [List.length_map] at hown
  obtain ⟨g1, c1, rfl⟩ := Pm.row_form hown h0
  have HW := Lib.hid hown
  have HF := Lib.hid hoff
  clear hown hoff HC
  go_wp2_with fail
  refine (HO.out _ _ _ _).mono ?_
  rintro r w2 ⟨rfl, rfl⟩
  go_wp2
  go_ret
  have hown := HW.out
  rw [show l.length = (l.map Int.ofNat).length by simp] at hown
  obtain ⟨D, hD, hrep, hf⟩ := rep_of (w := w) hown
  rw [List.length_map] at hrep
  have hb := (off_below HF.out)
  have hb2 : Below w.heap.size w ((w1.alloc (.map #[] 0)).alloc (.cells #[.int .i64 0, .int .i64 0, .bool false, .int .i64 0, .slice (some ⟨g1, 0, none⟩) l.length c1, .map (some w1.heap.size), .slice none 0 0] 109)) :=
    (hb.alloc hb.size _).alloc (by have := hb.size; simp; omega) _
  refine ⟨_, rfl, ⟨_, ⟨D, hrep, hD, ?_, fun k hk hn => ?_, fun k hk => ?_⟩, rfl, rfl, H64.out, rfl, rfl⟩, hb2⟩
  · refine ⟨by simp, by simp, by simp, by simp, by simp, by simpa using hl, Nat.le_refl _, by simp, by simp⟩
  · have := hf k hk
    omega
  · exact Nat.lt_of_lt_of_le hk hb2.size
end
end Vol
end Go.Proofs.YtcojgpjappjobaaGreatDoor
/- The library's bodies (slices.Compact) as they stand in this program, in plain words. -/
namespace Go.Proofs
open Go.Shelf
def Tryz.compactA_ren : Go.Shelf.Ren := ⟨fun | 43 => 164 | n => n, fun | 22 => 93 | 23 => 3 | 3 => 3 | 4 => 4 | 0 => 0 | n => n, fun | n => n⟩
theorem Tryz.compactA : Go.Proofs.SlLaysN.n43 Tryz.prog Tryz.compactA_ren := {
  mixed := by kernel_rfl
  f43 := ⟨Tryz.f164.name, by decide, Tryz.func164.trans (congrArg some (by kernel_rfl))⟩
  t0 := Tryz.underlying0
  a0 := Tryz.isAgg0
  z0 := Tryz.sizeOf0
  v0 := Tryz.zeroValue0
  t3 := Tryz.underlying3
  a3 := Tryz.isAgg3
  z3 := Tryz.sizeOf3
  v3 := Tryz.zeroValue3
  t4 := Tryz.underlying4
  a4 := Tryz.isAgg4
  z4 := Tryz.sizeOf4
  v4 := Tryz.zeroValue4
  t22 := Tryz.underlying93
  a22 := Tryz.isAgg93
  z22 := Tryz.sizeOf93
  v22 := Tryz.zeroValue93
  t23 := Tryz.underlying3
  a23 := Tryz.isAgg3
  z23 := Tryz.sizeOf3
  v23 := Tryz.zeroValue3
  i23 := by kernel_rfl }
end Go.Proofs
/- The medium: words read and written many at once. -/
namespace Go.Proofs.YtcojgpjappjobaaGreatDoor
open Go.RowKit Go.MapKept
namespace Vol

/-- stores as they lie, from the start of a block -/
structure Sts (w : World) (g : Nat) (l : List (Nat × Nat)) : Prop where
  lt : g < w.heap.size
  at' : ∀ j (h : j < l.length), w.cell? ⟨g, j * 2, none⟩ = some (.int .i64 (l[j].1 : Int)) ∧ w.cell? ⟨g, j * 2 + 1, none⟩ = some (.int .u64 (l[j].2 : Int))
theorem Sts.of_block {w w' : World} {g : Nat} {l : List (Nat × Nat)} (h : Sts w g l) (e : w'.heap[g]? = w.heap[g]?) : Sts w' g l :=
  ⟨Pm.lt_of_some (e.trans (Array.getElem?_eq_getElem h.lt)), fun j hj => ⟨(World.cell?_of_block (w := w) e).trans (h.at' j hj).1, (World.cell?_of_block (w := w) e).trans (h.at' j hj).2⟩⟩
theorem Sts.keep {w w' : World} {g : Nat} {l : List (Nat × Nat)} (h : Sts w g l) (hb : Below w.heap.size w w') : Sts w' g l := h.of_block (hb.block g h.lt)
theorem Sts.kq {Q : Nat → Prop} {w w' : World} {g : Nat} {l : List (Nat × Nat)} (h : Sts w g l) (hk : Kq Q w w') (hq : Q g) : Sts w' g l := h.of_block (hk.at hq h.lt)

section
variable {Q : Nat → Prop} {w : World} {a : Nat} {W : List Nat} {st sn : Nat}

/-- a device pointer in a box -/
structure Bx (w : World) (b a : Nat) : Prop where
  lt : b < w.heap.size
  c0 : w.cell? ⟨b, 0, none⟩ = some (.pointer (some ⟨a, 0, none⟩))
theorem Bx.of_block {w w' : World} {b a : Nat} (h : Bx w b a) (e : w'.heap[b]? = w.heap[b]?) : Bx w' b a :=
  ⟨Pm.lt_of_some (e.trans (Array.getElem?_eq_getElem h.lt)), (World.cell?_of_block (w := w) e).trans h.c0⟩
theorem Bx.keep {w w' : World} {b a : Nat} (h : Bx w b a) (hb : Below w.heap.size w w') : Bx w' b a := h.of_block (hb.block b h.lt)
theorem Bx.kq {Q : Nat → Prop} {w w' : World} {b a : Nat} (h : Bx w b a) (hk : Kq Q w w') (hq : Q b) : Bx w' b a := h.of_block (hk.at hq h.lt)
theorem bx_new (w : World) (a : Nat) (t : TypeId) : Bx (w.alloc (.cells #[.pointer (some ⟨a, 0, none⟩)] t)) w.heap.size a := ⟨by simp, Pack.alloc_cell w _ t 0⟩

/-- the words that were read up to k -/
structure Rd (w : World) (a n : Nat) (l : List Nat) (k : Nat) (wr : World) : Prop where
  box : Bx wr w.heap.size a
  row : wr.rowIs (w.heap.size + 1) 85 n (Pack.upto l k)
  below : Below w.heap.size w wr
theorem Rd.set {wr : World} {n k : Nat} {l : List Nat} (h : Rd w a n l k wr) : Rd w a n l (k + 1) (wr.setCell ⟨w.heap.size + 1, k, none⟩ (.int .u64 ((l[k]?.getD 0 : Nat) : Int))) :=
  ⟨h.box.of_block (Below.heap_setCell _ _ _ _ (by show w.heap.size ≠ w.heap.size + 1; omega)), (h.row.set k _).congr (fun j _ => Pack.upto_step j), h.below.setCell (by show w.heap.size ≤ w.heap.size + 1; omega) _⟩

set_option maxHeartbeats 4000000 in
set_option maxRecDepth 100000 in
theorem read_any (h : Up Q w a W st sn) (f n : Nat) (hf : f ≤ 10000000) (hn : n ≤ 4194304) :
    Calls Tryz.prog 63 #[.agg #[.pointer (some ⟨a, 0, none⟩)], .int .i64 (f : Int), .int .i64 (n : Int)] w fun r w' =>
      ∃ g, r = .returned (.slice (some ⟨g, 0, none⟩) n n) ∧ w.heap.size ≤ g ∧ w'.rowIs g 85 n (fun i => .int .u64 (((rdw W f n)[i]?.getD 0 : Nat) : Int)) ∧ Below w.heap.size w w' := by
  have H := Lib.hid h
  clear h
  have HX := Lib.hid (bx_new w a 121)
  have HB := Lib.hid ((Below.refl w.heap.size w).alloc (Nat.le_refl _) (.cells #[.pointer (some ⟨a, 0, none⟩)] 121))
  have HZ := Lib.hid (World.size_alloc w (.cells #[.pointer (some ⟨a, 0, none⟩)] 121))
  go_enter Tryz.func63, Tryz.ntmps63
  have hmk := fun W => Pm.run_new n (n : Int) rfl hn W
  go_wp2
  clear hmk
  generalize w.alloc (.cells #[.pointer (some ⟨a, 0, none⟩)] 121) = w1 at *
  have hba := (Below.refl w1.heap.size w1).alloc (Nat.le_refl _) (.cells (madeCells #[.int .u64 0] n) 85)
  have hrow := (World.rowIs_made w1 (.int .u64 0) n 85).congr (g := Pack.upto (rdw W f n) 0) (fun i _ => by simp [Pack.upto])
  rw [HZ.out] at hrow
  have HR := Lib.hid (show Rd w a n (rdw W f n) 0 _ from ⟨HX.out.keep hba, hrow, HB.out.trans (hba.mono HB.out.size)⟩)
  clear hrow hba HX HB HZ
  generalize w1.alloc (.cells (madeCells #[.int .u64 0] n) 85) = w2 at *
  clear w1
  go_loopw [13] (fun i wr => ∃ (k : Nat), k ≤ n ∧ i = .int .i64 (k : Int) ∧ Rd w a n (rdw W f n) k wr) (fun i _ => n - (intOf i).toNat)
  case atStart => exact ⟨0, Nat.zero_le _, rfl, HR.out⟩
  case round =>
    obtain ⟨k, hk, rfl, hrs⟩ := hrel
    have HS := Lib.hid hrs
    clear hrs HR
    by_cases hlt : k < n
    · have HC := Lib.hid (up_load (H.out.keep HS.out.below) (f + k))
      have hx : (rdw W f n)[k]?.getD 0 = W[f + k]?.getD 0 := by
        have hl : k < (rdw W f n).length := by rw [rdw_len]; exact hlt
        rw [List.getElem?_eq_getElem hl, rdw_get]
        rfl
      have hi0 : (0 : Int) ≤ (k : Int) := by omega
      have hi1 : (k : Int) < (n : Int) := by omega
      have hrc := HS.out.row.cell hlt
      have hrf := HS.out.row.frozen k
      have hc0 := HS.out.box.c0
      have HS2 := Lib.hid HS.out.set
      rw [hx] at HS2
      clear hx
      generalize W[f + k]?.getD 0 = x at *
      generalize hcast : ((f + k : Nat) : Int) = F at *
      have hF : (f : Int) + (k : Int) = F := by omega
      clear hcast
      go_wp2_with fail
      refine HC.out.mono ?_
      rintro e w' ⟨rfl, rfl⟩
      go_wp2
      refine ⟨⟨k + 1, by omega, by go_num, HS2.out⟩, by simp [intOf]; omega⟩
    · obtain rfl : k = n := by omega
      go_wp2
      go_ret
      refine ⟨_, rfl, by omega, HS.out.row.congr (fun i hi => ?_), HS.out.below⟩
      unfold Pack.upto
      rw [if_pos hi]

theorem store_info : (Tryz.prog.info? 157).map (fun i => (i.zero, i.size, i.bytes)) = some (some (.agg #[.int .i64 0, .int .u64 0]), 2, 16) := by kernel_rfl
/-- the cells of stores, made up to the m-th -/
def stc (l : List (Nat × Nat)) (m i : Nat) : Value :=
  if i / 2 < m then (if i % 2 = 0 then .int .i64 (((l[i / 2]?.getD (0, 0)).1 : Nat) : Int) else .int .u64 (((l[i / 2]?.getD (0, 0)).2 : Nat) : Int)) else if i % 2 = 0 then .int .i64 0 else .int .u64 0
theorem stc_step {l : List (Nat × Nat)} {m x y : Nat} (h : l[m]?.getD (0, 0) = (x, y)) (j : Nat) : (if j = m * 2 + 1 then Value.int .u64 (y : Int) else if j = m * 2 then Value.int .i64 (x : Int) else stc l m j) = stc l (m + 1) j := by
  unfold stc
  by_cases h1 : j = m * 2 + 1
  · subst h1
    rw [if_pos rfl, show (m * 2 + 1) / 2 = m by omega, if_pos (by omega), if_neg (by omega), h]
  · rw [if_neg h1]
    by_cases h2 : j = m * 2
    · subst h2
      rw [if_pos rfl, show m * 2 / 2 = m by omega, if_pos (by omega), if_pos (by omega), h]
    · rw [if_neg h2]
      by_cases h3 : j / 2 < m
      · rw [if_pos h3, if_pos (show j / 2 < m + 1 by omega)]
      · rw [if_neg h3, if_neg (show ¬ j / 2 < m + 1 by omega)]
theorem made_two (w : World) (n : Nat) (l : List (Nat × Nat)) (t : TypeId) : (w.alloc (.cells (madeCells #[.int .i64 0, .int .u64 0] (n * 2)) t)).rowIs w.heap.size t (n * 2) (stc l 0) := by
  have h := World.rowIs_alloc w (madeCells #[.int .i64 0, .int .u64 0] (n * 2)) t (stc l 0) (fun i hi => by
    rw [size_madeCells] at hi
    unfold stc
    rw [if_neg (by omega)]
    have : i % 2 = 0 ∨ i % 2 = 1 := by omega
    rcases this with h | h <;> simp [madeCells, hi, h])
  rwa [size_madeCells] at h
theorem sts_row {g n : Nat} {l : List (Nat × Nat)} {t : TypeId} (h : w.rowIs g t (n * 2) (stc l n)) (hl : l.length = n) : Sts w g l := by
  refine ⟨h.lt, fun j hj => ?_⟩
  have h1 := h.cell (i := j * 2) (by omega)
  have h2 := h.cell (i := j * 2 + 1) (by omega)
  unfold stc at h1 h2
  rw [if_pos (by omega), if_pos (by omega), show j * 2 / 2 = j by omega, List.getElem?_eq_getElem hj] at h1
  rw [if_pos (by omega), if_neg (by omega), show (j * 2 + 1) / 2 = j by omega, List.getElem?_eq_getElem hj] at h2
  exact ⟨h1, h2⟩

set_option maxHeartbeats 4000000 in
set_option maxRecDepth 100000 in
theorem storesOf_any (f : Nat) (A : Option Addr) (c : Nat) (l : List Nat) (h : Pack.Wds w A l) (hf : f ≤ 10000000) (hl : l.length ≤ 4194304) :
    Calls Tryz.prog 89 #[.int .i64 (f : Int), .slice A l.length c] w fun r w' =>
      r = .returned (.slice (some ⟨w.heap.size, 0, none⟩) l.length l.length) ∧ Sts w' w.heap.size (sto f l) ∧ w'.rowIs w.heap.size 157 (l.length * 2) (stc (sto f l) l.length) ∧ Below w.heap.size w w' := by
  obtain ⟨i0, hi0, hz0, hz1, hz2⟩ := info_parts store_info
  have hmk := run_make (P := Tryz.prog) w 149 157 i0 _ Tryz.underlying149 hi0 hz0 .i64 .i64 (l.length : Int) (l.length : Int) (by omega) (by omega) (by rw [hz2]; omega) (by omega)
  rw [hz1] at hmk
  simp only [Value.cells, Int.toNat_natCast] at hmk
  have H := Lib.hid h
  have HR0 := Lib.hid (made_two w l.length (sto f l) 157)
  have HB0 := Lib.hid ((Below.refl w.heap.size w).alloc (Nat.le_refl _) (.cells (madeCells #[.int .i64 0, .int .u64 0] (l.length * 2)) 157))
  clear h
  go_enter Tryz.func89, Tryz.ntmps89
  go_wp2
  generalize w.alloc (.cells (madeCells #[.int .i64 0, .int .u64 0] (l.length * 2)) 157) = w1 at *
  go_loopw [13] (fun i wr => ∃ (k : Nat), k ≤ l.length ∧ i = .int .i64 (k : Int) ∧ wr.rowIs w.heap.size 157 (l.length * 2) (stc (sto f l) k) ∧ Below w.heap.size w wr) (fun i _ => l.length - (intOf i).toNat)
  case atStart => exact ⟨0, Nat.zero_le _, rfl, HR0.out, HB0.out⟩
  case round =>
    obtain ⟨k, hk, rfl, hrow, hbel⟩ := hrel
    have HS := Lib.hid hrow
    have HB := Lib.hid hbel
    clear hrow hbel HR0 HB0
    by_cases hlt : k < l.length
    · obtain ⟨b, o, rfl, hb, hcell⟩ := H.out.at' k hlt
      have hcell := (HB.out.cell (p := ⟨b, o + k, none⟩) hb).trans hcell
      have hx : (sto f l)[k]?.getD (0, 0) = (f + k, l[k]) := by
        have h1 : k < (sto f l).length := by rw [sto_len]; exact hlt
        rw [List.getElem?_eq_getElem h1, sto_get, List.getElem?_eq_getElem hlt]
        rfl
      have HX := Lib.hid hx
      clear hx
      generalize l[k] = x at *
      have hi0 : (0 : Int) ≤ (k : Int) := by omega
      have hi1 : (k : Int) < (l.length : Int) := by omega
      have hf0 := HS.out.frozen (k * 2)
      have hf1 := HS.out.frozen (k * 2 + 1)
      have hc0 := HS.out.cell (i := k * 2) (by omega)
      have hc1 := HS.out.cell (i := k * 2 + 1) (by omega)
      generalize hcast : ((f + k : Nat) : Int) = F at *
      have hF : (f : Int) + (k : Int) = F := by omega
      have HF := Lib.hid hcast
      clear hcast
      go_wp2
      refine ⟨⟨k + 1, by omega, by go_num, ?_, ?_⟩, by simp [intOf]; omega⟩
      · have h2 := ((HS.out.set (k * 2) (.int .i64 F)).set (k * 2 + 1) (.int .u64 (x : Int)))
        rw [← HF.out] at h2
        have h3 := h2.congr (fun j _ => stc_step HX.out j)
        rw [HF.out] at h3
        exact h3
      · exact (HB.out.setCell (by show w.heap.size ≤ w.heap.size; omega) _).setCell (by show w.heap.size ≤ w.heap.size; omega) _
    · obtain rfl : k = l.length := by omega
      go_wp2
      go_ret
      exact ⟨rfl, sts_row HS.out (sto_len _ _), HS.out, HB.out⟩
end
end Vol
end Go.Proofs.YtcojgpjappjobaaGreatDoor
/- The medium's lines, and its write. -/
namespace Go.Proofs.YtcojgpjappjobaaGreatDoor
open Go.RowKit Go.MapKept
namespace Vol

theorem compact_le (zs : List Int) : (Lib.compact zs).length ≤ zs.length := by
  unfold Lib.compact Lib.compactUpTo
  rw [List.length_map]
  exact Nat.le_trans (List.length_filter_le _ _) (by rw [List.length_range]; exact Nat.le_refl _)

theorem compact_any {w : World} {B n c : Nat} {G : Option Addr} {zs : List Int} (h : w.ownsRow B 3 1 (.slice G n c) n (Pack.i64s zs)) (hB : B ≤ w.heap.size) (hn : n ≤ 4194304) :
    Calls Tryz.prog 164 #[.slice G n c] w fun r w' => ∃ (G' : Option Addr) (c' : Nat), r = .returned (.slice G' (Lib.compact zs).length c') ∧ w'.ownsRow B 3 1 (.slice G' (Lib.compact zs).length c') (Lib.compact zs).length (Pack.i64s (Lib.compact zs)) ∧ Below B w w' := by
  have hl : zs.length = n := by simpa [Pack.i64s] using h.1
  by_cases hv : (Value.slice G n c) = .slice none 0 0
  · injection hv with h1 h2 h3
    subst h1 h2 h3
    obtain rfl : zs = [] := List.length_eq_zero_iff.1 hl
    refine (AnyG.slices_Compact_int_empty Tryz.compactA none 0 w).mono ?_
    rintro r w' ⟨rfl, rfl⟩
    exact ⟨none, 0, rfl, World.ownsRow_nil _ _ _ _, Below.refl _ _⟩
  · obtain ⟨g, cap, he, hb, hg, hnc, hcm, hl2, hH⟩ := Lib.holds_of_ownsRow (enc := Value.int .i64) h hv
    injection he with h1 h2 h3
    subst h1 h3
    have hc := AnyG.slices_Compact_int Tryz.compactA g 0 c zs w hH (by omega) (by omega)
    rw [hl] at hc
    refine hc.mono ?_
    rintro r w' ⟨rfl, q, rfl⟩
    have hle := compact_le zs
    have ho := Lib.ownsRow_putRow (q := q) (k := (Lib.compact zs).length) (ys := Lib.compact zs ++ List.replicate (n - (Lib.compact zs).length) 0) h (by simp; omega) (by omega)
    rw [List.take_left' rfl] at ho
    exact ⟨_, _, rfl, ho, Lib.below_putRow (Below.refl _ _) hb⟩

/-- ints as they lie in a row of the call's own -/
def Ints (w0 w : World) (G : Option Addr) (l : List Int) : Prop := ∀ j (h : j < l.length), ∃ g, G = some ⟨g, 0, none⟩ ∧ w0.heap.size ≤ g ∧ g < w.heap.size ∧ w.cell? ⟨g, j, none⟩ = some (.int .i64 l[j])
theorem ints_own {w0 w : World} {n c : Nat} {G : Option Addr} {l : List Int} (h : w.ownsRow w0.heap.size 3 1 (.slice G n c) n (Pack.i64s l)) : Ints w0 w G l := by
  intro j hj
  have hl : l.length = n := by simpa [Pack.i64s] using h.1
  obtain ⟨g, e, hg, hc⟩ := Pack.own_cells h j (by omega)
  refine ⟨g, e, Pack.row_base_lt h (by rw [e]; rfl), hg, ?_⟩
  rw [Nat.zero_add] at hc
  rw [hc]
  simp [Pack.i64s, hj]

theorem i64s_lin {l : List (Nat × Nat)} {m : Nat} (h : m < l.length) : Pack.i64s (lin (l.take (m + 1))) = Pack.i64s (lin (l.take m)) ++ [.int .i64 ((l[m].1 / 8 : Nat) : Int)] := by
  unfold Pack.i64s lin
  rw [List.take_succ_eq_append_getElem h, List.map_append, List.map_append]
  rfl

set_option maxHeartbeats 4000000 in
set_option maxRecDepth 100000 in
theorem linesOf_any (w : World) (g c : Nat) (l : List (Nat × Nat)) (h : Sts w g l) (hl : l.length ≤ 4194304) (hs : ∀ p ∈ l, p.1 ≤ 10000000) :
    Calls Tryz.prog 129 #[.slice (some ⟨g, 0, none⟩) l.length c] w fun r w' => ∃ (G : Option Addr) (gc : Nat), r = .returned (.slice G (lns l).length gc) ∧ Ints w w' G (lns l) ∧ Below w.heap.size w w' := by
  have H := Lib.hid h
  have HS := Lib.hid hs
  clear h hs
  go_enter Tryz.func129, Tryz.ntmps129
  go_wp2
  go_loopw [3, 8] (fun v i wr => ∃ (k : Nat) (G : Option Addr) (gc : Nat), k ≤ l.length ∧ i = .int .i64 (k : Int) ∧ v = .slice G k gc ∧ wr.ownsRow w.heap.size 3 1 (.slice G k gc) k (Pack.i64s (lin (l.take k))) ∧ Below w.heap.size w wr) (fun _ i _ => l.length - (intOf i).toNat)
  case atStart => exact ⟨0, none, 0, Nat.zero_le _, rfl, rfl, World.ownsRow_nil _ _ _ _, Below.refl _ _⟩
  case round =>
    obtain ⟨k, G, gc, hk, rfl, rfl, hown, hbel⟩ := hrel
    have HOW := Lib.hid hown
    have HBW := Lib.hid hbel
    by_cases hlt : k < l.length
    · have HI := Lib.hid (i64s_lin hlt)
      obtain ⟨hc0, hc1⟩ := (H.out.keep hbel).at' k hlt
      have hxs := HS.out _ (List.getElem_mem hlt)
      have hsz := hbel.size
      have hgl := H.out.lt
      clear hown hbel
      generalize l[k] = p at *
      obtain ⟨x, y⟩ := p
      simp only at hc0 hc1 hxs HI
      obtain ⟨i1, hi1, hy0, hy1, hy2⟩ := info_parts Pm.int_info
      have hi0 : (0 : Int) ≤ (k : Int) := by omega
      have hi2 : (k : Int) < (l.length : Int) := by omega
      have HO := Lib.hid ((HOW.out.alloc (.cells #[.int .i64 (x : Int), .int .u64 (y : Int)] 157)).alloc (.cells #[.int .i64 ((x : Int) / 8)] 3))
      have HB := Lib.hid ((HBW.out.alloc HBW.out.size (.cells #[.int .i64 (x : Int), .int .u64 (y : Int)] 157)).alloc (by have := HBW.out.size; simp; omega) (.cells #[.int .i64 ((x : Int) / 8)] 3))
      go_wp2_with (at_builtin
                   refine wpList_append_own_at _ rfl (.tmp 12) (.tmp 16) 93 rfl w.heap.size 3 i1 (.int .i64 0) 1 8 Tryz.underlying93 hi1 hy0 hy1 hy2 rfl (by decide) (.slice G k gc) k (Pack.i64s (lin (l.take k))) rfl HO.out ⟨wr.heap.size + 1, 0, none⟩ 1 1 [.int .i64 ((x : Int) / 8)] rfl rfl (Pm.cell_one_new2 _ _ _ _) (by simp [Value.oneCell']) (by unfold maxLen; omega) (by omega) (by simp; omega) ?_
                   intro v' w3 hown3 hgr3 _ hat3
                   obtain ⟨G3, c3, rfl⟩ := Pack.row_slice hown3
                   have HO3 := Lib.hid hown3
                   have HB3 := Lib.hid (HB.out.grown hgr3 (by simp; omega) (fun k hk => Pack.row_base_lt HOW.out hk))
                   clear hown3 hgr3 hat3)
      refine ⟨⟨k + 1, G3, c3, by omega, by go_num, rfl, ?_, HB3.out⟩, by simp [intOf]; omega⟩
      rw [HI.out]
      exact HO3.out
    · obtain rfl : k = l.length := by omega
      rw [List.take_length] at hown
      have HC := Lib.hid (compact_any hown hbel.size hl)
      clear hown hbel HOW
      go_wp2_with fail
      refine HC.out.mono ?_
      rintro r w3 ⟨G', c', rfl, hown, hb⟩
      have HI := Lib.hid (ints_own (w0 := w) hown)
      have HB := Lib.hid (HBW.out.trans hb)
      clear hown hb HC
      go_wp2
      go_ret
      exact ⟨G', c', rfl, HI.out, HB.out⟩
end Vol
end Go.Proofs.YtcojgpjappjobaaGreatDoor
/- The medium's write: words are stored, then their lines are flushed. -/
namespace Go.Proofs.YtcojgpjappjobaaGreatDoor
open Go.RowKit Go.MapKept
namespace Vol
section
variable {Q : Nat → Prop} {w : World} {a : Nat} {W : List Nat} {st sn : Nat}

/-- behind k stores -/
structure Wr (Q : Nat → Prop) (w : World) (a b g : Nat) (W : List Nat) (st sn : Nat) (l : List (Nat × Nat)) (w' : World) : Prop where
  up : Up Q w' a W st sn
  kq : Kq Q w w'
  box : Bx w' b a
  sts : Sts w' g l

theorem Ints.kq {w0 w1 w2 : World} {G : Option Addr} {l : List Int} (h : Ints w0 w1 G l) (hk : Kq Q w1 w2) (hq : ∀ k, w0.heap.size ≤ k → k < w1.heap.size → Q k) : Ints w0 w2 G l := by
  intro j hj
  obtain ⟨g, e, h1, h2, hc⟩ := h j hj
  have hb := hk.at (hq g h1 h2) h2
  exact ⟨g, e, h1, Nat.lt_of_lt_of_le h2 hk.size, (World.cell?_of_block (w := w1) hb).trans hc⟩
/-- behind k lines -/
structure Wl (Q : Nat → Prop) (w0 w : World) (a b : Nat) (W : List Nat) (st sn : Nat) (G : Option Addr) (l : List Int) (w' : World) : Prop where
  up : Up Q w' a W st sn
  kq : Kq Q w w'
  box : Bx w' b a
  ints : Ints w0 w' G l

set_option maxHeartbeats 4000000 in
set_option maxRecDepth 100000 in
theorem write_any (h : Up Q w a W st sn) (g c : Nat) (l : List (Nat × Nat)) (hg : Sts w g l) (hq : Q g) (hW : ∀ p ∈ l, p.1 < W.length ∧ p.2 < 18446744073709551616) (hs : st + 2 * l.length < 100000000000) (hln : l.length ≤ 4194304) :
    Calls Tryz.prog 88 #[.agg #[.pointer (some ⟨a, 0, none⟩)], .slice (some ⟨g, 0, none⟩) l.length c] w fun r w' =>
      r = .returned (.int .i64 0) ∧ Up Q w' a (puts W l) (st + l.length + (lns l).length) (sn + l.length) ∧ Kq Q w w' := by
  have hl : l.length < 100000000000 := by omega
  have hsz := h.size
  have HU := Lib.hid h.u64
  have HW := Lib.hid hW
  have hb0 := (Below.refl w.heap.size w).alloc (Nat.le_refl _) (.cells #[.pointer (some ⟨a, 0, none⟩)] 121)
  have HX := Lib.hid (bx_new w a 121)
  have HG := Lib.hid (hg.keep hb0)
  have HUP := Lib.hid (h.grow hb0)
  have HB0 := Lib.hid hb0
  have HQ := Lib.hid hq
  have HZ := Lib.hid (World.size_alloc w (.cells #[.pointer (some ⟨a, 0, none⟩)] 121))
  clear h hg hq hW hb0
  go_enter Tryz.func88, Tryz.ntmps88
  go_wp2
  generalize w.alloc (.cells #[.pointer (some ⟨a, 0, none⟩)] 121) = w1 at *
  obtain ⟨Q1, hQ1⟩ : ∃ Q1 : Nat → Prop, Q1 = fun k => Q k ∨ (w.heap.size ≤ k ∧ k < w1.heap.size) := ⟨_, rfl⟩
  rw [← hQ1] at HUP
  have HQS := Lib.hid (show ∀ k, Q k → Q1 k by rw [hQ1]; exact fun k h => .inl h)
  have HQB := Lib.hid (show Q1 w.heap.size by rw [hQ1]; exact .inr ⟨Nat.le_refl _, HX.out.lt⟩)
  have HQG := Lib.hid (HQS.out _ HQ.out)
  clear hQ1
  have HR := Lib.hid (show Wr Q1 w1 a w.heap.size g (puts W (l.take 0)) (st + 0) (sn + 0) l w1 from ⟨HUP.out, Pm.Off.refl _ _, HX.out, HG.out⟩)
  clear HUP HX HG
  go_loopw [11] (fun i wr => ∃ (k : Nat), k ≤ l.length ∧ i = .int .i64 (k : Int) ∧ Wr Q1 w1 a w.heap.size g (puts W (l.take k)) (st + k) (sn + k) l wr) (fun i _ => l.length - (intOf i).toNat)
  case atStart => exact ⟨0, Nat.zero_le _, rfl, HR.out⟩
  case round =>
    obtain ⟨k, hk, rfl, hrs⟩ := hrel
    have HS := Lib.hid hrs
    clear hrs HR
    by_cases hlt : k < l.length
    · obtain ⟨hc0, hc1⟩ := HS.out.sts.at' k hlt
      have hbx := HS.out.box.c0
      have hgl := HS.out.sts.lt
      have hbl := HS.out.box.lt
      obtain ⟨hw1, hw2⟩ := HW.out _ (List.getElem_mem hlt)
      have HP := Lib.hid (puts_step W l k hlt)
      generalize l[k] = p at *
      obtain ⟨x, y⟩ := p
      simp only at hc0 hc1 hw1 hw2 HP
      have hb := (Below.refl wr.heap.size wr).alloc (Nat.le_refl _) (.cells #[.int .i64 (x : Int), .int .u64 (y : Int)] 157)
      have hup := HS.out.up.keep hb
      have HC := Lib.hid (up_store hup x y (by rw [puts_len]; exact hw1) hw2 (by omega))
      have HB := Lib.hid hb
      have HX := Lib.hid (HS.out.box.keep hb)
      have HG := Lib.hid (HS.out.sts.keep hb)
      have hi0 : (0 : Int) ≤ (k : Int) := by omega
      have hi1 : (k : Int) < (l.length : Int) := by omega
      clear hup hb
      go_wp2_with fail
      refine HC.out.mono ?_
      rintro e w2 ⟨rfl, hu2, hk2⟩
      have HS2 := Lib.hid (show Wr Q1 w1 a w.heap.size g (puts W (l.take (k + 1))) (st + (k + 1)) (sn + (k + 1)) l w2 from
        ⟨by rw [HP.out]; exact hu2, HS.out.kq.trans ((kq_below HB.out).trans hk2), HX.out.kq hk2 HQB.out, HG.out.kq hk2 HQG.out⟩)
      clear hu2 hk2 HC
      go_wp2
      refine ⟨⟨k + 1, by omega, by go_num, HS2.out⟩, by simp [intOf]; omega⟩
    · obtain rfl : k = l.length := by omega
      obtain ⟨wo, hwo⟩ : ∃ wo, wo = wr := ⟨_, rfl⟩
      rw [← hwo] at HS ⊢
      clear hwo
      have HC := Lib.hid (linesOf_any wo g c l HS.out.sts hln (fun p hp => by have := (HW.out p hp).1; omega))
      go_wp2_with fail
      refine HC.out.mono ?_
      rintro r w3 ⟨G, gc, rfl, hin, hb⟩
      rw [List.take_length] at HS
      obtain ⟨Q2, hQ2⟩ : ∃ Q2 : Nat → Prop, Q2 = fun k => Q1 k ∨ (wo.heap.size ≤ k ∧ k < w3.heap.size) := ⟨_, rfl⟩
      have hup := HS.out.up.grow hb
      rw [← hQ2] at hup
      have HQ2 := Lib.hid (show ∀ k, Q1 k → Q2 k by rw [hQ2]; exact fun k h => .inl h)
      have HQL := Lib.hid (show ∀ k, wo.heap.size ≤ k → k < w3.heap.size → Q2 k by rw [hQ2]; exact fun k h1 h2 => .inr ⟨h1, h2⟩)
      clear hQ2
      have HL := Lib.hid (show Wl Q2 wo w3 a w.heap.size (puts W l) (st + l.length + 0) (sn + l.length) G (lns l) w3 from ⟨hup, Pm.Off.refl _ _, HS.out.box.keep hb, hin⟩)
      have HIN := Lib.hid hin
      have HKA := Lib.hid (HS.out.kq.trans (kq_below hb))
      have HM := Lib.hid (lns_mem l)
      have hml := lns_le l
      clear hup hin hb HC HS
      obtain ⟨L, hL⟩ : ∃ L, L = lns l := ⟨_, rfl⟩
      rw [← hL] at HL HM hml HIN
      have HLL := Lib.hid hL
      rw [← hL]
      clear hL
      go_wp2
      go_loopw [27] (fun i ww => ∃ (j : Nat), j ≤ L.length ∧ i = .int .i64 (j : Int) ∧ Wl Q2 wo w3 a w.heap.size (puts W l) (st + l.length + j) (sn + l.length) G L ww) (fun i _ => L.length - (intOf i).toNat)
      case atStart => exact ⟨0, Nat.zero_le _, rfl, HL.out⟩
      case round =>
        obtain ⟨j, hj, rfl, hrs⟩ := hrel
        have HS := Lib.hid hrs
        clear hrs HL
        by_cases hjl : j < L.length
        · obtain ⟨g', rfl, hg1, hg2, hcl⟩ := HS.out.ints j hjl
          obtain ⟨p, hp, hpe⟩ := HM.out _ (List.getElem_mem hjl)
          have hpl := (HW.out p hp).1
          rw [hpe] at hcl
          clear hpe hp
          generalize hq : p.1 / 8 = q at *
          have HC := Lib.hid (up_flush HS.out.up q (by rw [puts_len]; omega) (by omega))
          have hbx := HS.out.box.c0
          have hbl := HS.out.box.lt
          have hi0 : (0 : Int) ≤ (j : Int) := by omega
          have hi1 : (j : Int) < (L.length : Int) := by omega
          clear hq hpl
          go_wp2_with fail
          refine HC.out.mono ?_
          rintro e w5 ⟨rfl, hu5, hk5⟩
          have HS5 := Lib.hid (show Wl Q2 wo w3 a w.heap.size (puts W l) (st + l.length + (j + 1)) (sn + l.length) (some ⟨g', 0, none⟩) L w5 from
            ⟨hu5, HS.out.kq.trans hk5, HS.out.box.kq hk5 (HQ2.out _ HQB.out), ?_⟩)
          · clear hu5 hk5 HC
            go_wp2
            refine ⟨⟨j + 1, by omega, by go_num, HS5.out⟩, by simp [intOf]; omega⟩
          · exact HIN.out.kq (HS.out.kq.trans hk5) HQL.out
        · obtain rfl : j = L.length := by omega
          go_wp2
          go_ret
          refine ⟨rfl, by rw [← HLL.out]; exact HS.out.up.sub (fun k h => HQ2.out k (HQS.out k h)), ?_⟩
          exact (kq_below HB0.out).trans ((HKA.out.sub HQS.out).trans (HS.out.kq.sub (fun k h => HQ2.out k (HQS.out k h))))
end
end Vol
end Go.Proofs.YtcojgpjappjobaaGreatDoor
/- A volume: Open, Geometry, Device. -/
namespace Go.Proofs.YtcojgpjappjobaaGreatDoor
open Go.RowKit Go.MapKept
namespace Vol
section
variable {Q Q' : Nat → Prop} {w w' : World} {vb a n m s : Nat} {W : List Nat} {st sn : Nat}

/-- a volume in block vb, over the device in block a: its geometry, its words, its device's steps and stores -/
structure Vo (Q : Nat → Prop) (w : World) (vb a n m s : Nat) (W : List Nat) (st sn : Nat) : Prop where
  vol : w.heap[vb]? = some (.cells #[.pointer (some ⟨a, 0, none⟩), .int .i64 (n : Int), .int .i64 (m : Int), .int .i64 (s : Int)] 123 (0, 0))
  q : Q vb
  up : Up Q w a W st sn
  may : Geo.may n m s = true
  len : (W.length : Int) = Geo.fin n m s
theorem Vo.lt (h : Vo Q w vb a n m s W st sn) : vb < w.heap.size := Pm.lt_of_some h.vol
theorem Vo.keep (h : Vo Q w vb a n m s W st sn) (hb : Below w.heap.size w w') : Vo Q w' vb a n m s W st sn := ⟨(hb.block vb h.lt).trans h.vol, h.q, h.up.keep hb, h.may, h.len⟩
theorem Vo.grow (h : Vo Q w vb a n m s W st sn) (hb : Below w.heap.size w w') : Vo (fun k => Q k ∨ (w.heap.size ≤ k ∧ k < w'.heap.size)) w' vb a n m s W st sn := ⟨(hb.block vb h.lt).trans h.vol, .inl h.q, h.up.grow hb, h.may, h.len⟩
theorem Vo.sub (h : Vo Q w vb a n m s W st sn) (hs : ∀ k, Q' k → Q k) (hq : Q' vb) : Vo Q' w vb a n m s W st sn := ⟨h.vol, hq, h.up.sub hs, h.may, h.len⟩
theorem Vo.cells (h : Vo Q w vb a n m s W st sn) : w.cell? ⟨vb, 0, none⟩ = some (.pointer (some ⟨a, 0, none⟩)) ∧ w.cell? ⟨vb, 1, none⟩ = some (.int .i64 (n : Int)) ∧ w.cell? ⟨vb, 2, none⟩ = some (.int .i64 (m : Int)) ∧ w.cell? ⟨vb, 3, none⟩ = some (.int .i64 (s : Int)) :=
  ⟨Pm.blk_cell h.vol 0, Pm.blk_cell h.vol 1, Pm.blk_cell h.vol 2, Pm.blk_cell h.vol 3⟩
/-- behind a device's call -/
theorem Vo.next (h : Vo Q w vb a n m s W st sn) {W' : List Nat} {st' sn' : Nat} (hu : Up Q w' a W' st' sn') (hk : Kq Q w w') (hl : W'.length = W.length) : Vo Q w' vb a n m s W' st' sn' :=
  ⟨(hk.at h.q h.lt).trans h.vol, h.q, hu, h.may, by rw [hl]; exact h.len⟩

theorem up_read (h : Up Q w a W st sn) (hm : Geo.may n m s = true) (hl : (W.length : Int) = Geo.fin n m s) (h8 : rdw W 0 8 = Sup.sb n m s) :
    Calls Tryz.prog 110 #[.pointer (some ⟨a, 0, none⟩)] w fun r w' => r = .returned (.tuple #[.agg #[.int .i64 (n : Int), .int .i64 (m : Int), .int .i64 (s : Int)], .int .i64 0]) ∧ Below w.heap.size w w' := by
  obtain ⟨A, hv, _, hw, h64, _⟩ := h
  have hu : Sup.U64 A.words := by
    intro x hx
    rw [hw] at hx
    obtain ⟨y, hy, rfl⟩ := List.mem_map.1 hx
    have := h64 y hy
    simp only [Int.ofNat_eq_natCast]
    omega
  have hr := Sup.read_any hv.ses hu
  have e : Sup.rd A = rdw W 0 8 := by
    refine List.ext_getElem (by rw [Sup.rd_len, rdw_len]) (fun i h1 h2 => ?_)
    rw [rdw_get]
    have h3 : i < 8 := by rwa [Sup.rd_len] at h1
    have := Sup.rd_get A h3
    rw [List.getElem?_eq_getElem h1] at this
    refine Eq.trans (b := (A.words[i]?.getD 0).toNat) (by simpa using this) ?_
    rw [hw, List.getElem?_map, Nat.zero_add]
    cases W[i]? with
    | none => rfl
    | some y => simp
  have hon : Sup.ron (Sup.rd A) A.words.length = some (n, m, s) := by
    rw [e, h8]
    unfold Sup.ron
    rw [Sup.dec_sb hm]
    simp only
    rw [if_pos (by rw [hw, List.length_map]; exact hl.symm)]
  rw [hon] at hr
  exact hr

set_option maxHeartbeats 4000000 in
set_option maxRecDepth 100000 in
theorem open_any (h : Up Q w a W st sn) (hm : Geo.may n m s = true) (hl : (W.length : Int) = Geo.fin n m s) (h8 : rdw W 0 8 = Sup.sb n m s) :
    Calls Tryz.prog 57 #[.pointer (some ⟨a, 0, none⟩)] w fun r w' => ∃ vb, r = .returned (.tuple #[.pointer (some ⟨vb, 0, none⟩), .int .i64 0]) ∧ w.heap.size ≤ vb ∧
      Vo (fun k => Q k ∨ (w.heap.size ≤ k ∧ k < w'.heap.size)) w' vb a n m s W st sn ∧ Below w.heap.size w w' := by
  have HC := Lib.hid (up_read h hm hl h8)
  have H := Lib.hid h
  have HM := Lib.hid hm
  have HL := Lib.hid hl
  clear h hm hl h8
  go_enter Tryz.func57, Tryz.ntmps57
  go_wp2_with fail
  refine HC.out.mono ?_
  rintro r w1 ⟨rfl, hb⟩
  have HB := Lib.hid hb
  clear hb HC
  go_wp2
  go_ret2
  have hb0 := HB.out.alloc HB.out.size (.cells #[.int .i64 (n : Int), .int .i64 (m : Int), .int .i64 (s : Int)] 34)
  have hz := World.size_alloc w1 (.cells #[.int .i64 (n : Int), .int .i64 (m : Int), .int .i64 (s : Int)] 34)
  generalize w1.alloc (.cells #[.int .i64 (n : Int), .int .i64 (m : Int), .int .i64 (s : Int)] 34) = w2 at *
  have hb1 := hb0.alloc hb0.size (.cells #[.pointer (some ⟨a, 0, none⟩), .int .i64 (n : Int), .int .i64 (m : Int), .int .i64 (s : Int)] 123)
  refine ⟨w1.heap.size + 1, rfl, Nat.le_succ_of_le HB.out.size, ⟨?_, .inr ⟨Nat.le_succ_of_le HB.out.size, by simp; omega⟩, H.out.grow hb1, HM.out, HL.out⟩, hb1⟩
  have := (heap_alloc w2 (.cells #[.pointer (some ⟨a, 0, none⟩), .int .i64 (n : Int), .int .i64 (m : Int), .int .i64 (s : Int)] 123)).1
  rw [hz] at this
  exact this

set_option maxHeartbeats 4000000 in
set_option maxRecDepth 100000 in
theorem geometry_any (h : Vo Q w vb a n m s W st sn) : Calls Tryz.prog 10 #[.pointer (some ⟨vb, 0, none⟩)] w fun r w' => r = .returned (.agg #[.int .i64 (n : Int), .int .i64 (m : Int), .int .i64 (s : Int)]) ∧ Below w.heap.size w w' := by
  obtain ⟨c0, c1, c2, c3⟩ := h.cells
  have hlt := h.lt
  clear h
  go_enter Tryz.func10, Tryz.ntmps10
  go_wp2
  refine bodyPost_ret (v := .agg #[.int .i64 (n : Int), .int .i64 (m : Int), .int .i64 (s : Int)]) ?_ rfl ⟨rfl, ?_⟩
  · simp [results, Tryz.results10, go_sem]
  · exact (Below.refl _ _).alloc (Nat.le_refl _) _
theorem device_any (h : Vo Q w vb a n m s W st sn) : Calls Tryz.prog 12 #[.pointer (some ⟨vb, 0, none⟩)] w fun r w' => r = .returned (.pointer (some ⟨a, 0, none⟩)) ∧ w = w' := by
  obtain ⟨c0, c1, c2, c3⟩ := h.cells
  have hlt := h.lt
  clear h
  go_enter Tryz.func12, Tryz.ntmps12
  go_wp2
  go_ret
  exact ⟨rfl, rfl⟩
theorem isNone_any (w : World) (p : Int) : Calls Tryz.prog 60 #[.int .i64 p] w fun r w' => r = .returned (.bool (decide (p < 0))) ∧ w = w' := by
  go_enter Tryz.func60, Tryz.ntmps60
  go_wp2
  go_ret
  exact ⟨rfl, rfl⟩
theorem sync_any (h : Vo Q w vb a n m s W st sn) (hs : st + 1 < 100000000000) : Calls Tryz.prog 48 #[.pointer (some ⟨vb, 0, none⟩)] w fun r w' => r = .returned (.int .i64 0) ∧ Vo Q w' vb a n m s W (st + 1) sn ∧ Kq Q w w' := by
  obtain ⟨c0, c1, c2, c3⟩ := h.cells
  have hlt := h.lt
  have HC := Lib.hid (up_fence h.up hs)
  have H := Lib.hid h
  clear h
  go_enter Tryz.func48, Tryz.ntmps48
  go_wp2_with fail
  refine HC.out.mono ?_
  rintro r w1 ⟨rfl, hu, hk⟩
  have HU := Lib.hid hu
  have HK := Lib.hid hk
  clear hu hk HC
  go_wp2
  go_ret
  exact ⟨rfl, H.out.next HU.out HK.out rfl, HK.out⟩
end
end Vol
end Go.Proofs.YtcojgpjappjobaaGreatDoor
/- Law 15's Raw: its geometry, the document's volume. -/
namespace Go.Proofs.YtcojgpjappjobaaGreatDoor
open Go.RowKit Go.MapKept
namespace Vol

/-- a small geometry's places, as natural numbers -/
structure Pl (n m s sl bm bk E : Nat) : Prop where
  may : Geo.may n m s = true
  e1 : 16 + (m : Int) * 8 = (sl : Int)
  e2 : Geo.bmAt n m = (bm : Int)
  e3 : Geo.bkAt n m = (bk : Int)
  e4 : Geo.fin n m s = (E : Int)
  n20 : 1 ≤ n ∧ n ≤ 20
  m20 : 1 ≤ m ∧ m ≤ 20
  s2 : s = 64 ∨ s = 128

def gn (x : Nat) : Nat := 1 + x % 20
def gs (x : Nat) : Nat := 64 * 2 ^ (x % 2)
theorem gs_cases (x : Nat) : gs x = 64 ∨ gs x = 128 := by
  unfold gs
  have : x % 2 = 0 ∨ x % 2 = 1 := by omega
  rcases this with h | h <;> rw [h] <;> simp
theorem pl_any (n m k : Nat) : ∃ sl bm bk E, Pl (gn n) (gn m) (gs k) sl bm bk E := by
  have h1 : 1 ≤ gn n ∧ gn n ≤ 20 := by unfold gn; omega
  have h2 : 1 ≤ gn m ∧ gn m ≤ 20 := by unfold gn; omega
  have h3 := gs_cases k
  generalize gn n = N at *
  generalize gn m = M at *
  generalize gs k = S at *
  refine ⟨16 + M * 8, 16 + M * 8 + (N + 7) / 8 * 8, 16 + M * 8 + (N + 7) / 8 * 8 + ((N + 63) / 64 + 7) / 8 * 8, 16 + M * 8 + (N + 7) / 8 * 8 + ((N + 63) / 64 + 7) / 8 * 8 + N * (S / 8), ?_, ?_, ?_, ?_, ?_, h1, h2, h3⟩
  · refine Geo.may_yes ⟨⟨by omega, by omega, ?_⟩, ?_⟩
    · unfold Geo.Sz
      omega
    · unfold Geo.fin Geo.bkAt Geo.bmAt Geo.lines
      rcases h3 with h | h <;> rw [h] <;> omega
  · omega
  · unfold Geo.bmAt Geo.lines
    omega
  · unfold Geo.bkAt Geo.bmAt Geo.lines
    omega
  · unfold Geo.fin Geo.bkAt Geo.bmAt Geo.lines
    simp

section
variable {n m s sl bm bk E : Nat}
/-- all places, by the numbers -/
theorem Pl.at (h : Pl n m s sl bm bk E) : sl = 16 + m * 8 ∧ bm = sl + 8 * ((n + 7) / 8) ∧ bk = bm + 8 ∧ E = bk + n * (s / 8) ∧ E ≤ 540 := by
  have h1 := h.e1
  have h2 := h.e2
  have h3 := h.e3
  have h4 := h.e4
  have h5 := h.n20
  have h6 := h.m20
  unfold Geo.fin at h4
  unfold Geo.bkAt at h3 h4
  unfold Geo.bmAt at h2 h3 h4
  unfold Geo.lines at h2 h3 h4
  rcases h.s2 with h7 | h7 <;> subst h7 <;> refine ⟨by omega, by omega, by omega, ?_, ?_⟩ <;> omega
end

/-- a block's cells -/
def Hb (w : World) (b : Nat) (cs : Array Value) (t : TypeId) : Prop := w.heap[b]? = some (.cells cs t (0, 0))
section
variable {w w' : World} {b : Nat} {cs : Array Value} {t : TypeId}
theorem Hb.lt (h : Hb w b cs t) : b < w.heap.size := Pm.lt_of_some h
theorem Hb.of_block (h : Hb w b cs t) (e : w'.heap[b]? = w.heap[b]?) : Hb w' b cs t := e.trans h
theorem Hb.keep (h : Hb w b cs t) (hb : Below w.heap.size w w') : Hb w' b cs t := (hb.block b h.lt).trans h
theorem Hb.below {B : Nat} (h : Hb w b cs t) (hb : Below B w w') (hB : b < B) : Hb w' b cs t := (hb.block b hB).trans h
theorem Hb.kq {Q : Nat → Prop} (h : Hb w b cs t) (hk : Kq Q w w') (hq : Q b) : Hb w' b cs t := (hk.at hq h.lt).trans h
theorem Hb.cell (h : Hb w b cs t) (i : Nat) : w.cell? ⟨b, i, none⟩ = cs[i]? := Pm.blk_cell h i
theorem Hb.frozen (h : Hb w b cs t) (i : Nat) : w.frozen? ⟨b, i, none⟩ = false := Pm.blk_frozen h i
theorem Hb.set (h : Hb w b cs t) (i : Nat) (u : Value) : Hb (w.setCell ⟨b, i, none⟩ u) b (cs.setIfInBounds i u) t := Pm.blk_set h i u
theorem Hb.far (h : Hb w b cs t) {p : Addr} (hp : b ≠ p.block) (u : Value) : Hb (w.setCell p u) b cs t := Pm.blk_far h hp u
theorem hb_new (w : World) (cs : Array Value) (t : TypeId) : Hb (w.alloc (.cells cs t)) w.heap.size cs t := (heap_alloc w _).1
theorem hb_grown {row : Option Nat} (h : Hb w b cs t) (hg : w.grownBy w' row) (hr : row ≠ some b) : Hb w' b cs t := (hg.block b h.lt (fun e => hr e.symm)).trans h
theorem hb_apart {B n : Nat} {e : TypeId} {v : Value} {xs : List Value} (h : Hb w b cs t) (ho : w.ownsRow B e 1 v n xs) (ht : e ≠ t) : v.ownBlock ≠ some b := by
  rcases ho.2 with ⟨e1, _⟩ | ⟨g, cap, cur, e1, _, hg, _⟩
  · rw [e1]; simp [Value.ownBlock]
  · rw [e1]
    simp only [Value.ownBlock, ne_eq, Option.some.injEq]
    exact Pm.blk_ne hg h ht
theorem Hb.drewN (h : Hb w b cs t) (n : Nat) : Hb (w.drewN n) b cs t := h
end

/-- the document's volume, as a value's cells -/
def dv (n m s sl bm bk E : Nat) (v : Value) : Array Value := #[.int .i64 (n : Int), .int .i64 (m : Int), .int .i64 (s : Int), .int .i64 16, .int .i64 (sl : Int), .int .i64 (bm : Int), .int .i64 (bk : Int), .int .i64 (E : Int), v]

section
variable {w : World} {n m s sl bm bk E : Nat}
set_option maxHeartbeats 4000000 in
set_option maxRecDepth 100000 in
theorem refOf_any (w : World) (h : Pl n m s sl bm bk E) : Calls Tryz.prog 102 #[.int .i64 (n : Int), .int .i64 (m : Int), .int .i64 (s : Int), .slice none 0 0] w fun r w' => r = .returned (.agg (dv n m s sl bm bk E (.slice none 0 0))) ∧ Below w.heap.size w w' := by
  have hof := fun w => Geo.of_any w (n : Int) (m : Int) (s : Int)
  rw [h.may, Geo.parts_yes h.may, h.e1, h.e2, h.e3, h.e4] at hof
  have HO := Lib.hid hof
  clear hof h
  unfold dv
  go_enter Tryz.func102, Tryz.ntmps102
  have hz0 := (heap_alloc w (.cells #[.int .i64 0, .int .i64 0, .int .i64 0, .int .i64 0, .int .i64 0, .int .i64 0, .int .i64 0, .int .i64 0, .slice none 0 0] 30)).1
  have HB0 := Lib.hid ((Below.refl w.heap.size w).alloc (Nat.le_refl _) (.cells #[.int .i64 0, .int .i64 0, .int .i64 0, .int .i64 0, .int .i64 0, .int .i64 0, .int .i64 0, .int .i64 0, .slice none 0 0] 30))
  have HZ := Lib.hid hz0
  clear hz0
  go_wp2_with fail
  generalize w.alloc (.cells #[.int .i64 0, .int .i64 0, .int .i64 0, .int .i64 0, .int .i64 0, .int .i64 0, .int .i64 0, .int .i64 0, .slice none 0 0] 30) = w0 at *
  refine (HO.out _).mono ?_
  rintro r w1 ⟨rfl, hb⟩
  have HB := Lib.hid (HB0.out.trans (hb.mono HB0.out.size))
  have hblk := (hb.block w.heap.size (Pm.lt_of_some HZ.out)).trans HZ.out
  have hl := Pm.lt_of_some hblk
  have c0 := Pm.blk_cell hblk 0
  have c1 := Pm.blk_cell hblk 1
  have c2 := Pm.blk_cell hblk 2
  have c3 := Pm.blk_cell hblk 3
  have c4 := Pm.blk_cell hblk 4
  have c5 := Pm.blk_cell hblk 5
  have c6 := Pm.blk_cell hblk 6
  have c7 := Pm.blk_cell hblk 7
  have c8 := Pm.blk_cell hblk 8
  have f0 := Pm.blk_frozen hblk 0
  have f1 := Pm.blk_frozen hblk 1
  have f2 := Pm.blk_frozen hblk 2
  have f3 := Pm.blk_frozen hblk 3
  have f4 := Pm.blk_frozen hblk 4
  have f5 := Pm.blk_frozen hblk 5
  have f6 := Pm.blk_frozen hblk 6
  have f7 := Pm.blk_frozen hblk 7
  have f8 := Pm.blk_frozen hblk 8
  clear hb hblk HO HZ HB0
  go_wp2
  refine bodyPost_ret (v := .agg #[.int .i64 (n : Int), .int .i64 (m : Int), .int .i64 (s : Int), .int .i64 16, .int .i64 (sl : Int), .int .i64 (bm : Int), .int .i64 (bk : Int), .int .i64 (E : Int), .slice none 0 0]) ?_ rfl ⟨rfl, ?_⟩
  · simp [results, Tryz.results102, go_sem, c0, c1, c2, c3, c4, c5, c6, c7, c8, hl]
  · have h9 := (((((((((HB.out.setCell (p := ⟨w.heap.size, 0, none⟩) (Nat.le_refl _) (.int .i64 (n : Int))).setCell (p := ⟨w.heap.size, 1, none⟩) (Nat.le_refl _) (.int .i64 (m : Int))).setCell (p := ⟨w.heap.size, 2, none⟩) (Nat.le_refl _) (.int .i64 (s : Int))).setCell (p := ⟨w.heap.size, 3, none⟩) (Nat.le_refl _) (.int .i64 16)).setCell (p := ⟨w.heap.size, 4, none⟩) (Nat.le_refl _) (.int .i64 (sl : Int))).setCell (p := ⟨w.heap.size, 5, none⟩) (Nat.le_refl _) (.int .i64 (bm : Int))).setCell (p := ⟨w.heap.size, 6, none⟩) (Nat.le_refl _) (.int .i64 (bk : Int))).setCell (p := ⟨w.heap.size, 7, none⟩) (Nat.le_refl _) (.int .i64 (E : Int))).setCell (p := ⟨w.heap.size, 8, none⟩) (Nat.le_refl _) (.slice none 0 0))
    exact h9.alloc h9.size _

set_option maxHeartbeats 4000000 in
set_option maxRecDepth 100000 in
theorem rgeo_any (w : World) (x y k : Nat) (hx : x < 256) (hy : y < 256) (hk : k < 256) (v : Value) : Calls Tryz.prog 11 #[.agg #[.int .u8 (x : Int), .int .u8 (y : Int), .int .u8 (k : Int), v]] w fun r w' => r = .returned (.agg #[.int .i64 (gn x : Nat), .int .i64 (gn y : Nat), .int .i64 (gs k : Nat)]) ∧ Below w.heap.size w w' := by
  go_enter Tryz.func11, Tryz.ntmps11
  go_wp2
  have e1 : (1 : Int) + (x : Int) % 20 = (gn x : Nat) := by unfold gn; omega
  have e2 : (1 : Int) + (y : Int) % 20 = (gn y : Nat) := by unfold gn; omega
  have e3 : wrap64 (64 * 2 ^ (k % 2)) = (gs k : Nat) := by
    have e : (64 : Int) * 2 ^ (k % 2) = (gs k : Nat) := by unfold gs; simp
    rw [e]
    refine IntWalk.wrap64_in _ ?_
    have := gs_cases k
    omega
  rw [e1, e2, e3]
  refine bodyPost_ret (v := .agg #[.int .i64 (gn x : Nat), .int .i64 (gn y : Nat), .int .i64 (gs k : Nat)]) ?_ rfl ⟨rfl, ?_⟩
  · simp [results, Tryz.results11, go_sem]
  · exact ((Below.refl _ _).alloc (Nat.le_refl _) _).alloc (by simp) _
end
end Vol
end Go.Proofs.YtcojgpjappjobaaGreatDoor
