/- Decode, walked. -/
import Derived.Test.YtamkelcgalfkcaaRecEncode
import Derived.Test.YtamkelcgalfkcaaLinEqual
namespace Go.Proofs.Ytamkelcgalfkcaa
open Go.RowKit Go.MapKept
namespace Rec
open Lin

/-- a record, all noughts if there is none -/
def gv : Option (Nat × Nat × Nat × Nat) → Value
  | some (s, f, t, c) => .agg #[.int .i64 (s : Int), .int .i64 (f : Int), .int .i64 (t : Int), .int .i64 (c : Int)]
  | none => .agg #[.int .i64 0, .int .i64 0, .int .i64 0, .int .i64 0]

theorem split_yes (w : World) (N : Nat) (hN : w.heap.size = N) (x : Nat) (h : x < 18446744073709551616) : Calls Try.prog 23 #[.int .u64 (x : Int), .slice (some ⟨N, 0, none⟩) 4 4] (w.alloc (.cells #[.int .i64 16, .int .i64 16, .int .i64 16, .int .i64 16] 3)) fun e w' => ∃ (b o gc : Nat), e = .returned (.tuple #[.slice (some ⟨b, o, none⟩) 4 gc, .bool true]) ∧ (b < w'.heap.size ∧ w'.cell? ⟨b, o + 1, none⟩ = some (.int .u64 ((x / 65536 % 65536 : Nat) : Int)) ∧ w'.cell? ⟨b, o + 2, none⟩ = some (.int .u64 ((x / 4294967296 % 65536 : Nat) : Int)) ∧ w'.cell? ⟨b, o + 3, none⟩ = some (.int .u64 ((x / 281474976710656 : Nat) : Int))) ∧ Below w.heap.size w w' := by
  subst hN
  refine (Pack.split_any x h _ 4 _ (nts_four w)).mono ?_
  rintro e w' ⟨G, gc, rfl, hw, hb⟩
  have hb0 := (Below.refl w.heap.size w).alloc (Nat.le_refl _) (.cells #[.int .i64 16, .int .i64 16, .int .i64 16, .int .i64 16] 3)
  rw [split_nums h] at hw ⊢
  simp only [Option.getD_some] at hw
  obtain ⟨b, o, rfl, hlt, hc1⟩ := hw.at' 1 (by simp)
  obtain ⟨b', o', e, _, hc2⟩ := hw.at' 2 (by simp)
  injection e with e
  injection e with e1 e2
  subst e1 e2
  obtain ⟨b', o', e, _, hc3⟩ := hw.at' 3 (by simp)
  injection e with e
  injection e with e1 e2
  subst e1 e2
  exact ⟨b, o, gc, rfl, ⟨hlt, hc1, hc2, hc3⟩, hb0.trans (hb.mono hb0.size)⟩

section
variable {w : World}
set_option maxHeartbeats 2000000 in
set_option maxRecDepth 100000 in
theorem decode_any (A : Option Addr) (cp : Nat) (l : List Nat) (h : Pack.Wds w A l) :
    Calls Try.prog 11 #[.slice A l.length cp] w fun r w' => r = .returned (.tuple #[gv (dec l), .int .i64 (st l)]) ∧ Below w.heap.size w w' := by
  have hlen := h.len
  have HB := Lib.hid ((Below.refl w.heap.size w).alloc (Nat.le_refl _) (.cells #[.int .i64 0, .int .i64 0, .int .i64 0, .int .i64 0] 23))
  have HX := Lib.hid (owned4 w 0 0 0 0 23)
  by_cases hl : l.length = 8
  · have HEM := Lib.hid (empty_any A cp l (h.keep HB.out))
    rw [all_zero hl, hl] at HEM
    rw [hl]
    by_cases hz : l = zero
    · subst hz
      have HM := HEM
      rw [decide_eq_true rfl] at HM
      have HD := Lib.hid dec_zero
      have HST := Lib.hid st_zero
      clear HEM
      go_enter Try.func11, Try.ntmps11
      go_wp2_with fail
      refine HM.out.mono ?_
      rintro e w1 ⟨rfl, rfl⟩
      go_wp2
      rw [HD.out, HST.out]
      refine bodyPost_ret (v := .tuple #[gv none, .int .i64 0]) ?_ rfl ⟨rfl, ?_⟩
      · simp [results, Try.results11, go_sem, gv]
      · exact HB.out
    · rw [decide_eq_false hz] at HEM
      obtain ⟨b, o, rfl, hb, hcell⟩ := h.at' 0 (by omega)
      rw [Nat.add_zero] at hcell
      obtain ⟨b', o', e, _, hcell1⟩ := h.at' 1 (by omega)
      injection e with e
      injection e with e1 e2
      subst e1 e2
      have hx := h.u64 l[0] (List.getElem_mem _)
      have hy := h.u64 l[1] (List.getElem_mem _)
      have HD0 := Lib.hid (show l[0]?.getD 0 = l[0] by rw [List.getElem?_eq_getElem (by omega)]; rfl)
      have HD1 := Lib.hid (show l[1]?.getD 0 = l[1] by rw [List.getElem?_eq_getElem (by omega)]; rfl)
      have H := Lib.hid h
      have HL := Lib.hid hl
      have HZ := Lib.hid hz
      clear h hz
      generalize l[0] = x at *
      generalize l[1] = y at *
      clear hl
      obtain ⟨s, hs⟩ : ∃ s, s = x / 65536 % 65536 := ⟨_, rfl⟩
      obtain ⟨f, hf⟩ : ∃ f, f = x / 4294967296 % 65536 := ⟨_, rfl⟩
      obtain ⟨t, ht⟩ : ∃ t, t = x / 281474976710656 := ⟨_, rfl⟩
      have hs1 : s < 65536 := by omega
      have hf1 : f < 65536 := by omega
      have ht1 : t < 65536 := by omega
      have HS := Lib.hid (split_yes (w.alloc (.cells #[.int .i64 0, .int .i64 0, .int .i64 0, .int .i64 0] 23)) (w.heap.size + 1) (World.size_alloc _ _) x hx)
      rw [← hs, ← hf, ← ht] at HS
      have HD := Lib.hid (show dec l = if may s f t y = true ∧ l = ln s f t y then some (s, f, t, y) else none by
        unfold dec
        simp only [HD0.out, HD1.out, ← hs, ← hf, ← ht]
        by_cases hc : may s f t y = true ∧ l = ln s f t y
        · rw [if_pos hc, if_pos ⟨HL.out, hc⟩]
        · rw [if_neg hc, if_neg (fun h => hc h.2)])
      clear hs hf ht HD0 HD1
      obtain ⟨S, hS⟩ : ∃ S, S = IntKind.wrap .i64 (y : Int) := ⟨_, rfl⟩
      have HMS := Lib.hid (show may s f t S = may s f t y by
        rw [IntKind.wrap_i64] at hS
        by_cases h63 : y < 9223372036854775808
        · have : S = (y : Int) := by omega
          rw [this]
        · have h1 : may s f t S = false := by
            unfold may May
            exact decide_eq_false (by omega)
          have h2 : may s f t y = false := by
            unfold may May
            exact decide_eq_false (by omega)
          rw [h1, h2])
      have HSY := Lib.hid (show may s f t y = true → S = (y : Int) by
        intro hm
        have := (may_lt hm).2.2.2
        rw [IntKind.wrap_i64] at hS
        omega)
      have hws : IntKind.wrap .i64 (s : Int) = (s : Int) := by rw [IntKind.wrap_i64]; omega
      have hwf : IntKind.wrap .i64 (f : Int) = (f : Int) := by rw [IntKind.wrap_i64]; omega
      have hwt : IntKind.wrap .i64 (t : Int) = (t : Int) := by rw [IntKind.wrap_i64]; omega
      have hwy : IntKind.wrap .i64 (y : Int) = S := hS.symm
      clear hS
      have hcellx := (HB.out.cell (p := ⟨b, o, none⟩) hb).trans hcell
      go_enter Try.func11, Try.ntmps11
      go_wp2_with fail
      refine HEM.out.mono ?_
      rintro e w0 ⟨rfl, rfl⟩
      clear HEM
      go_wp2_with fail
      refine HS.out.mono ?_
      rintro e w1 ⟨b1, o1, gc, rfl, ⟨hb1, hq1, hq2, hq3⟩, hbw⟩
      have HX1 := Lib.hid (HX.out.keep hbw)
      have HB1 := Lib.hid (HB.out.trans (hbw.mono HB.out.size))
      have hz1 : w.heap.size < w1.heap.size := HX1.out.box.lt
      have hcy : w1.cell? ⟨b, o + 1, none⟩ = some (.int .u64 (y : Int)) := (HB1.out.cell (p := ⟨b, o + 1, none⟩) hb).trans hcell1
      have hbw1 : b < w1.heap.size := Nat.lt_of_lt_of_le hb HB1.out.size
      have H1 := Lib.hid (H.out.keep HB1.out)
      clear hbw HS HX HB H hcell hcell1 hcellx
      go_wp2
      go_region
      have hba := (Below.refl w1.heap.size w1).alloc (Nat.le_refl _) (.cells #[.int .i64 (s : Int), .int .i64 (f : Int), .int .i64 (t : Int), .int .i64 S] 23)
      have HX2 := Lib.hid (HX1.out.keep hba).drew
      have HG2 := Lib.hid (boxed4 w1 s f t S 23).drew
      have HB2 := Lib.hid (HB1.out.trans (hba.mono HB1.out.size)).drew
      have H2 := Lib.hid (H1.out.keep hba.drew)
      clear hws hwf hwt hwy hba HX1 HB1 H1 hb1 hq1 hq2 hq3 hcy hbw1
      go_wp2_with fail
      generalize (w1.alloc (.cells #[.int .i64 (s : Int), .int .i64 (f : Int), .int .i64 (t : Int), .int .i64 S] 23)).drew = w2 at *
      generalize w1.heap.size = k1 at *
      cases hmay : may s f t y with
      | false =>
        have HN := Lib.hid (show dec l = none by rw [HD.out, if_neg (fun h => by rw [hmay] at h; simp at h)])
        have HST := Lib.hid (st_none HZ.out HN.out)
        refine (encode_no _ s f t S (by rw [HMS.out]; exact hmay)).mono ?_
        rintro e w3 ⟨rfl, hb3⟩
        have HX3 := Lib.hid (HX2.out.keep hb3)
        have HB3 := Lib.hid (HB2.out.trans (hb3.mono HB2.out.size))
        clear hb3 hmay HX2 HB2 H2 HD HMS HSY
        have hc0 := HX3.out.box.c0
        have hc1 := HX3.out.box.c1
        have hc2 := HX3.out.box.c2
        have hc3 := HX3.out.box.c3
        have hf0 := HX3.out.f 0
        have hf1 := HX3.out.f 1
        have hf2 := HX3.out.f 2
        have hf3 := HX3.out.f 3
        go_wp2
        rw [HN.out, HST.out]
        refine bodyPost_ret (v := .tuple #[gv none, .int .i64 2]) ?_ rfl ⟨rfl, ?_⟩
        · simp [results, Try.results11, go_sem, gv, hc0, hc1, hc2, hc3]
        · exact (((HB3.out.setCell (Nat.le_refl _) _).setCell (Nat.le_refl _) _).setCell (Nat.le_refl _) _).setCell (Nat.le_refl _) _
      | true =>
        obtain rfl := HSY.out hmay
        refine (encode_yes _ s f t y hmay).mono ?_
        rintro e w3 ⟨g, hg, rfl, hrow, hb3⟩
        have he := equal_any (some ⟨b, o, none⟩) (some ⟨g, 0, none⟩) cp 8 l (ln s f t y) (H2.out.keep hb3) (row_pack hrow (ln_len _ _ _ _) (ln_u64 hmay))
        rw [HL.out, ln_len] at he
        have HE := Lib.hid he
        have HX3 := Lib.hid (HX2.out.keep hb3)
        have HG3 := Lib.hid (HG2.out.keep hb3)
        have HB3 := Lib.hid (HB2.out.trans (hb3.mono HB2.out.size))
        have HM := Lib.hid hmay
        clear hb3 hmay HX2 HB2 H2 he hrow HG2 HMS HSY
        go_wp2_with fail
        refine HE.out.mono ?_
        rintro e w4 ⟨rfl, q, hq⟩
        have HX4 := Lib.hid (show Own4 w4 w.heap.size 0 0 0 0 by rw [hq]; exact HX3.out.drewN q)
        have HG4 := Lib.hid (show Box4 w4 k1 s f t y by rw [hq]; exact HG3.out.drewN q)
        have HB4 := Lib.hid (show Below w.heap.size w w4 by rw [hq]; exact Pack.below_drewN HB3.out q)
        clear hq HX3 HG3 HB3 HE
        have hc0 := HX4.out.box.c0
        have hc1 := HX4.out.box.c1
        have hc2 := HX4.out.box.c2
        have hc3 := HX4.out.box.c3
        have hf0 := HX4.out.f 0
        have hf1 := HX4.out.f 1
        have hf2 := HX4.out.f 2
        have hf3 := HX4.out.f 3
        by_cases hls : l = ln s f t y
        · have HN := Lib.hid (show dec l = some (s, f, t, y) by rw [HD.out, if_pos ⟨HM.out, hls⟩])
          have HST := Lib.hid (st_some HN.out)
          rw [decide_eq_true hls]
          have hg0 := HG4.out.c0
          have hg1 := HG4.out.c1
          have hg2 := HG4.out.c2
          have hg3 := HG4.out.c3
          clear hls HD HM HZ
          go_wp2
          rw [HN.out, HST.out]
          refine bodyPost_ret (v := .tuple #[gv (some (s, f, t, y)), .int .i64 1]) ?_ rfl ⟨rfl, ?_⟩
          · simp [results, Try.results11, go_sem, gv, hc0, hc1, hc2, hc3]
          · exact (((HB4.out.setCell (Nat.le_refl _) _).setCell (Nat.le_refl _) _).setCell (Nat.le_refl _) _).setCell (Nat.le_refl _) _
        · have HN := Lib.hid (show dec l = none by rw [HD.out, if_neg (fun h => hls h.2)])
          have HST := Lib.hid (st_none HZ.out HN.out)
          rw [decide_eq_false hls]
          clear hls HD HM HZ
          go_wp2
          rw [HN.out, HST.out]
          refine bodyPost_ret (v := .tuple #[gv none, .int .i64 2]) ?_ rfl ⟨rfl, ?_⟩
          · simp [results, Try.results11, go_sem, gv, hc0, hc1, hc2, hc3]
          · exact (((HB4.out.setCell (Nat.le_refl _) _).setCell (Nat.le_refl _) _).setCell (Nat.le_refl _) _).setCell (Nat.le_refl _) _
  · have HN := Lib.hid (show dec l = none by
      unfold dec
      exact if_neg (fun h => hl h.1))
    have HST := Lib.hid (st_none (fun h => hl (by rw [h]; rfl)) HN.out)
    have hl' : ¬ (l.length : Int) = 8 := by omega
    go_enter Try.func11, Try.ntmps11
    go_wp2
    rw [HN.out, HST.out]
    refine bodyPost_ret (v := .tuple #[gv none, .int .i64 2]) ?_ rfl ⟨rfl, ?_⟩
    · simp [results, Try.results11, go_sem, gv]
    · exact HB.out
end
end Rec
end Go.Proofs.Ytamkelcgalfkcaa
