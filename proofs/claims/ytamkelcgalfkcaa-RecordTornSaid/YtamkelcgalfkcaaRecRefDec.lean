/- The document's decoding. -/
import Derived.Test.YtamkelcgalfkcaaRecRef
namespace Go.Proofs.Ytamkelcgalfkcaa
open Go.RowKit Go.MapKept
namespace Rec
open Lin

section
variable {w : World}

theorem take_all {l : List Nat} {j : Nat} (hlt : j < l.length) : (l.take (j + 1)).all (fun x => x == 0) = ((l.take j).all (fun x => x == 0) && (l[j] == 0)) := by
  rw [List.take_succ_eq_append_getElem hlt, List.all_append]
  simp

set_option maxHeartbeats 2000000 in
set_option maxRecDepth 100000 in
theorem refDecode_any (A : Option Addr) (cp : Nat) (l : List Nat) (h : Pack.Wds w A l) :
    Calls Try.prog 14 #[.slice A l.length cp] w fun r w' => r = .returned (.tuple #[gv (dec l), .int .i64 (st l)]) ∧ Below w.heap.size w w' := by
  have hlen := h.len
  have HB := Lib.hid ((Below.refl w.heap.size w).alloc (Nat.le_refl _) (.cells #[.int .i64 0, .int .i64 0, .int .i64 0, .int .i64 0] 30))
  have HX := Lib.hid (owned4 w 0 0 0 0 30)
  by_cases hl : l.length = 8
  · have HAZ := Lib.hid (all_zero hl)
    have HU := Lib.hid h.u64
    have H1 := Lib.hid (h.keep HB.out)
    have HL := Lib.hid hl
    obtain ⟨b, o, hA, hb, hcell⟩ := H1.out.at' 0 (by omega)
    subst hA
    rw [Nat.add_zero] at hcell
    obtain ⟨b', o', e, _, hcell1⟩ := H1.out.at' 1 (by omega)
    injection e with e
    injection e with e1 e2
    subst e1 e2
    have hx := h.u64 l[0] (List.getElem_mem _)
    have hy := h.u64 l[1] (List.getElem_mem _)
    have HD0 := Lib.hid (show l[0]?.getD 0 = l[0] by rw [List.getElem?_eq_getElem (by omega)]; rfl)
    have HD1 := Lib.hid (show l[1]?.getD 0 = l[1] by rw [List.getElem?_eq_getElem (by omega)]; rfl)
    rw [hl]
    clear h HU
    generalize l[0] = x at *
    generalize l[1] = y at *
    clear hl
    go_enter Try.func14, Try.ntmps14
    go_wp2
    generalize w.alloc (.cells #[.int .i64 0, .int .i64 0, .int .i64 0, .int .i64 0] 30) = w1 at *
    go_loopw [4, 16] (fun v i wr => ∃ j : Nat, j ≤ 8 ∧ i = .int .i64 (j : Int) ∧ v = .bool ((l.take j).all (fun x => x == 0)) ∧ w1 = wr) (fun _ i _ => 8 - (intOf i).toNat)
    case atStart => exact ⟨0, Nat.zero_le _, rfl, rfl, rfl⟩
    case round =>
      obtain ⟨j, hj, rfl, rfl, rfl⟩ := hrel
      by_cases hlt : j < 8
      · have hlt2 : j < l.length := by rw [HL.out]; exact hlt
        obtain ⟨b2, o2, e, hb2, hcell2⟩ := H1.out.at' j hlt2
        injection e with e
        injection e with e1 e2
        subst e1 e2
        have hi0 : (0 : Int) ≤ (j : Int) := by omega
        have hi1 : (j : Int) < 8 := by omega
        have HT := Lib.hid (take_all hlt2)
        generalize l[j] = u at *
        clear hlt2 hcell hcell1
        generalize (l.take j).all (fun x => x == 0) = v at *
        by_cases hu : u = 0
        · subst hu
          cases v
          · go_wp2
            refine ⟨⟨j + 1, by omega, by go_num, by rw [HT.out]; rfl, trivial⟩, by simp [intOf]; omega⟩
          · go_wp2
            refine ⟨⟨j + 1, by omega, by go_num, by rw [HT.out]; rfl, trivial⟩, by simp [intOf]; omega⟩
        · have hne : ¬ (u : Int) = 0 := by omega
          have HF := Lib.hid (show (l.take (j + 1)).all (fun x => x == 0) = false by
            rw [HT.out, show (u == 0) = false from by simpa using hu, Bool.and_false])
          clear hu HT
          cases v
          · go_wp2
            refine ⟨⟨j + 1, by omega, by go_num, by rw [HF.out], trivial⟩, by simp [intOf]; omega⟩
          · go_wp2
            refine ⟨⟨j + 1, by omega, by go_num, by rw [HF.out]; simp; omega, trivial⟩, by simp [intOf]; omega⟩
      · obtain rfl : j = 8 := by omega
        rw [List.take_of_length_le (by rw [HL.out]; omega), HAZ.out]
        clear hlt hj
        have hbw : b < w1.heap.size := hb
        by_cases hz : l = zero
        · have HD := Lib.hid (show dec l = none by rw [hz]; exact dec_zero)
          have HST := Lib.hid (show st l = 0 by rw [hz]; exact st_zero)
          rw [decide_eq_true hz]
          clear hz hcell hcell1
          have hc0 := HX.out.box.c0
          have hc1 := HX.out.box.c1
          have hc2 := HX.out.box.c2
          have hc3 := HX.out.box.c3
          have hf0 := HX.out.f 0
          have hf1 := HX.out.f 1
          have hf2 := HX.out.f 2
          have hf3 := HX.out.f 3
          go_wp2
          rw [HD.out, HST.out]
          refine bodyPost_ret (v := .tuple #[gv none, .int .i64 0]) ?_ rfl ⟨rfl, ?_⟩
          · simp [results, Try.results14, go_sem, gv, hc0, hc1, hc2, hc3]
          · exact (((HB.out.setCell (Nat.le_refl _) _).setCell (Nat.le_refl _) _).setCell (Nat.le_refl _) _).setCell (Nat.le_refl _) _
        · rw [decide_eq_false hz]
          have HZ := Lib.hid hz
          clear hz
          by_cases h16 : y ≤ 65535
          · obtain ⟨s, hs⟩ : ∃ s, s = x / 65536 % 65536 := ⟨_, rfl⟩
            obtain ⟨f, hf⟩ : ∃ f, f = x / 4294967296 % 65536 := ⟨_, rfl⟩
            obtain ⟨t, ht⟩ : ∃ t, t = x / 281474976710656 := ⟨_, rfl⟩
            obtain ⟨sx, hsx⟩ : ∃ sx, sx = x / 65536 := ⟨_, rfl⟩
            obtain ⟨fx, hfx⟩ : ∃ fx, fx = x / 4294967296 := ⟨_, rfl⟩
            have hs1 : s < 65536 := by omega
            have hf1 : f < 65536 := by omega
            have ht1 : t < 65536 := by omega
            have HD := Lib.hid (show dec l = if may s f t y = true ∧ l = ln s f t y then some (s, f, t, y) else none by
              unfold dec
              simp only [HD0.out, HD1.out, ← hs, ← hf, ← ht]
              by_cases hc : may s f t y = true ∧ l = ln s f t y
              · rw [if_pos hc, if_pos ⟨HL.out, hc⟩]
              · rw [if_neg hc, if_neg (fun h => hc h.2)])
            have HX1 := Lib.hid (show (x : Int) / 65536 = (sx : Int) by omega)
            have HX2 := Lib.hid (show (sx : Int) % 65536 = (s : Int) by omega)
            have HX3 := Lib.hid (show (x : Int) / 4294967296 = (fx : Int) by omega)
            have HX4 := Lib.hid (show (fx : Int) % 65536 = (f : Int) by omega)
            have HX5 := Lib.hid (show (x : Int) / 281474976710656 = (t : Int) by omega)
            have hws : IntKind.wrap .i64 (s : Int) = (s : Int) := by rw [IntKind.wrap_i64]; omega
            have hwf : IntKind.wrap .i64 (f : Int) = (f : Int) := by rw [IntKind.wrap_i64]; omega
            have hwt : IntKind.wrap .i64 (t : Int) = (t : Int) := by rw [IntKind.wrap_i64]; omega
            have hwy : IntKind.wrap .i64 (y : Int) = (y : Int) := by rw [IntKind.wrap_i64]; omega
            have hy16 : ¬ (65535 : Int) < (y : Int) := by omega
            clear hs hf ht hsx hfx HD0 HD1
            go_wp2
            have hx1 := HX1.out
            have hx2 := HX2.out
            have hx3 := HX3.out
            have hx4 := HX4.out
            have hx5 := HX5.out
            go_region
            have hba := (Below.refl w1.heap.size w1).alloc (Nat.le_refl _) (.cells #[.int .i64 (s : Int), .int .i64 (f : Int), .int .i64 (t : Int), .int .i64 (y : Int)] 30)
            have HXO := Lib.hid (HX.out.keep hba).drew
            have HG2 := Lib.hid (boxed4 w1 s f t y 30).drew
            have HB2 := Lib.hid (HB.out.trans (hba.mono HB.out.size)).drew
            have H2 := Lib.hid (H1.out.keep hba.drew)
            have HMY := Lib.hid (fun w => refMay_any w s f t y)
            clear hws hwf hwt hwy hba HX HB H1 hb hcell hcell1 hx1 hx2 hx3 hx4 hx5 HX1 HX2 HX3 HX4 HX5 hx hy hy16 h16 hbw HAZ hlen
            go_wp2_with fail
            generalize (w1.alloc (.cells #[.int .i64 (s : Int), .int .i64 (f : Int), .int .i64 (t : Int), .int .i64 (y : Int)] 30)).drew = w2 at *
            generalize w1.heap.size = k1 at *
            cases hmay : may s f t y with
            | false =>
              have HN := Lib.hid (show dec l = none by rw [HD.out, if_neg (fun h => by rw [hmay] at h; simp at h)])
              have HST := Lib.hid (st_none HZ.out HN.out)
              refine (HMY.out _).mono ?_
              rintro e w3 ⟨rfl, hb3⟩
              rw [hmay]
              have HX3 := Lib.hid (HXO.out.keep hb3)
              have HB3 := Lib.hid (HB2.out.trans (hb3.mono HB2.out.size))
              clear hb3 hmay HXO HB2 H2 HD HMY HG2
              have hc0 := HX3.out.box.c0
              have hc1 := HX3.out.box.c1
              have hc2 := HX3.out.box.c2
              have hc3 := HX3.out.box.c3
              have hf0 := HX3.out.f 0
              have hf1 := HX3.out.f 1
              have hf2 := HX3.out.f 2
              have hf3 := HX3.out.f 3
              go_wp2
              rw [HN.out, HST.out]
              refine bodyPost_ret (v := .tuple #[gv none, .int .i64 2]) ?_ rfl ⟨rfl, ?_⟩
              · simp [results, Try.results14, go_sem, gv, hc0, hc1, hc2, hc3]
              · exact (((HB3.out.setCell (Nat.le_refl _) _).setCell (Nat.le_refl _) _).setCell (Nat.le_refl _) _).setCell (Nat.le_refl _) _
            | true =>
              refine (HMY.out _).mono ?_
              rintro e w3 ⟨rfl, hb3⟩
              rw [hmay]
              have HX3 := Lib.hid (HXO.out.keep hb3)
              have HG3 := Lib.hid (HG2.out.keep hb3)
              have H3 := Lib.hid (H2.out.keep hb3)
              have HB3 := Lib.hid (HB2.out.trans (hb3.mono HB2.out.size))
              have HM := Lib.hid hmay
              clear hb3 hmay HXO HB2 H2 HMY HG2
              have hg0 := HG3.out.c0
              have hg1 := HG3.out.c1
              have hg2 := HG3.out.c2
              have hg3 := HG3.out.c3
              go_wp2_with fail
              refine (refEncode_yes _ s f t y HM.out).mono ?_
              rintro e w4 ⟨G, gc, rfl, hw, hb4⟩
              have HX4 := Lib.hid (HX3.out.keep hb4)
              have HG4 := Lib.hid (HG3.out.keep hb4)
              have H4 := Lib.hid (H3.out.keep hb4)
              have HB4 := Lib.hid (HB3.out.trans (hb4.mono HB3.out.size))
              have HW := Lib.hid hw
              have hz3 : w.heap.size < w4.heap.size := HX4.out.box.lt
              have hz5 : k1 < w4.heap.size := HG4.out.lt
              clear hb4 HX3 HB3 H3 HG3 hw hg0 hg1 hg2 hg3
              obtain ⟨L, hL⟩ : ∃ L, ln s f t y = L := ⟨_, rfl⟩
              have HLL := Lib.hid (show L.length = 8 by rw [← hL]; exact ln_len _ _ _ _)
              rw [hL] at HW HD
              clear hL
              go_wp2
              go_loopw [63] (fun i wr => ∃ (j q : Nat), j ≤ 8 ∧ i = .int .i64 (j : Int) ∧ L.take j = l.take j ∧ wr = w4.drewN q) (fun i _ => 8 - (intOf i).toNat)
              case atStart => exact ⟨0, 0, Nat.zero_le _, rfl, rfl, rfl⟩
              case round =>
                obtain ⟨j, q, hj, rfl, hs, rfl⟩ := hrel
                have HS := Lib.hid hs
                clear hs
                by_cases hlt : j < 8
                · have hlt1 : j < L.length := by rw [HLL.out]; exact hlt
                  have hlt2 : j < l.length := by rw [HL.out]; exact hlt
                  obtain ⟨b1, o1, rfl, hb1, hcell1⟩ := HW.out.at' j hlt1
                  obtain ⟨b2, o2, e, hb2, hcell2⟩ := H4.out.at' j hlt2
                  injection e with e
                  injection e with e1 e2
                  subst e1 e2
                  have hi0 : (0 : Int) ≤ (j : Int) := by omega
                  have hi1 : (j : Int) < 8 := by omega
                  have HE := Lib.hid (show L.take (j + 1) = l.take (j + 1) ↔ L[j] = l[j] by
                    rw [List.take_succ_eq_append_getElem hlt1, List.take_succ_eq_append_getElem hlt2, HS.out, List.append_right_inj]
                    simp)
                  generalize L[j] = u at *
                  generalize l[j] = z at *
                  clear hlt1 hlt2
                  by_cases huz : u = z
                  · subst huz
                    have HE1 := Lib.hid (HE.out.2 rfl)
                    clear HE
                    go_wp2
                    go_quiet (fail)
                    go_wp2
                    refine ⟨⟨j + 1, q + nq, by omega, by go_num, HE1.out, rfl⟩, by simp [intOf]; omega⟩
                  · have hne : ¬ (u : Int) = (z : Int) := by omega
                    have HN := Lib.hid (show dec l = none by rw [HD.out, if_neg (fun h => huz (HE.out.1 (by rw [h.2])))])
                    have HST := Lib.hid (st_none HZ.out HN.out)
                    clear HE huz
                    go_wp2
                    go_quiet (fail)
                    clear hi0 hi1 hcell1 hcell2
                    have HX5 := Lib.hid (HX4.out.drewN (q + nq))
                    have HB5 := Lib.hid (Pack.below_drewN HB4.out (q + nq))
                    have hc0 := HX5.out.box.c0
                    have hc1 := HX5.out.box.c1
                    have hc2 := HX5.out.box.c2
                    have hc3 := HX5.out.box.c3
                    have hf0 := HX5.out.f 0
                    have hf1 := HX5.out.f 1
                    have hf2 := HX5.out.f 2
                    have hf3 := HX5.out.f 3
                    go_wp2
                    rw [HN.out, HST.out]
                    refine bodyPost_ret (v := .tuple #[gv none, .int .i64 2]) ?_ rfl ⟨rfl, ?_⟩
                    · simp [results, Try.results14, go_sem, gv, hc0, hc1, hc2, hc3]
                    · exact (((HB5.out.setCell (Nat.le_refl _) _).setCell (Nat.le_refl _) _).setCell (Nat.le_refl _) _).setCell (Nat.le_refl _) _
                · obtain rfl : j = 8 := by omega
                  have he : l = L := by
                    have := HS.out
                    rw [List.take_of_length_le (by rw [HLL.out]; omega), List.take_of_length_le (by rw [HL.out]; omega)] at this
                    exact this.symm
                  have HN := Lib.hid (show dec l = some (s, f, t, y) by rw [HD.out, if_pos ⟨HM.out, he⟩])
                  have HST := Lib.hid (st_some HN.out)
                  clear he
                  have HX5 := Lib.hid (HX4.out.drewN q)
                  have HG5 := Lib.hid (HG4.out.drewN q)
                  have HB5 := Lib.hid (Pack.below_drewN HB4.out q)
                  have hc0 := HX5.out.box.c0
                  have hc1 := HX5.out.box.c1
                  have hc2 := HX5.out.box.c2
                  have hc3 := HX5.out.box.c3
                  have hf0 := HX5.out.f 0
                  have hf1 := HX5.out.f 1
                  have hf2 := HX5.out.f 2
                  have hf3 := HX5.out.f 3
                  have hg0 := HG5.out.c0
                  have hg1 := HG5.out.c1
                  have hg2 := HG5.out.c2
                  have hg3 := HG5.out.c3
                  go_wp2
                  rw [HN.out, HST.out]
                  refine bodyPost_ret (v := .tuple #[gv (some (s, f, t, y)), .int .i64 1]) ?_ rfl ⟨rfl, ?_⟩
                  · simp [results, Try.results14, go_sem, gv, hc0, hc1, hc2, hc3]
                  · exact (((HB5.out.setCell (Nat.le_refl _) _).setCell (Nat.le_refl _) _).setCell (Nat.le_refl _) _).setCell (Nat.le_refl _) _
          · have HN := Lib.hid (show dec l = none by
              unfold dec
              simp only [HD0.out, HD1.out]
              exact if_neg (fun h => h16 (by have := (may_lt h.2.1).2.2.2; omega)))
            have HST := Lib.hid (st_none HZ.out HN.out)
            have hy16 : (65535 : Int) < (y : Int) := by omega
            have hc0 := HX.out.box.c0
            have hc1 := HX.out.box.c1
            have hc2 := HX.out.box.c2
            have hc3 := HX.out.box.c3
            have hf0 := HX.out.f 0
            have hf1 := HX.out.f 1
            have hf2 := HX.out.f 2
            have hf3 := HX.out.f 3
            go_wp2
            rw [HN.out, HST.out]
            refine bodyPost_ret (v := .tuple #[gv none, .int .i64 2]) ?_ rfl ⟨rfl, ?_⟩
            · simp [results, Try.results14, go_sem, gv, hc0, hc1, hc2, hc3]
            · exact (((HB.out.setCell (Nat.le_refl _) _).setCell (Nat.le_refl _) _).setCell (Nat.le_refl _) _).setCell (Nat.le_refl _) _
  · have HN := Lib.hid (show dec l = none by
      unfold dec
      exact if_neg (fun h => hl h.1))
    have HST := Lib.hid (st_none (fun h => hl (by rw [h]; rfl)) HN.out)
    have hl' : ¬ (l.length : Int) = 8 := by omega
    go_enter Try.func14, Try.ntmps14
    go_wp2
    rw [HN.out, HST.out]
    refine bodyPost_ret (v := .tuple #[gv none, .int .i64 2]) ?_ rfl ⟨rfl, ?_⟩
    · simp [results, Try.results14, go_sem, gv]
    · exact HB.out
end
end Rec
end Go.Proofs.Ytamkelcgalfkcaa
