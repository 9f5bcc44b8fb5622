/- The document's decoding. -/
import Derived.Test.YtoigfhijlnajoaaInoRefEnc
namespace Go.Proofs.Ytoigfhijlnajoaa
open Go.RowKit Go.MapKept
namespace Ino
open Lin

/-- the inode, and whether there is one -/
def rv (q : Option (Nat × Nat × Nat)) : Value := .tuple #[gv q, .bool q.isSome]

/-- the result's block, and the free one's -/
structure Two (w0 w : World) (b : Nat) : Prop where
  own : Own w b 0 0 0
  free : Box w (b + 1) 0 (-1) 0
  below : Below b w0 w
theorem Two.keep {w0 w w' : World} {b : Nat} (h : Two w0 w b) (hb : Below w.heap.size w w') : Two w0 w' b :=
  ⟨h.own.keep hb, h.free.keep hb, h.below.trans (hb.mono (Nat.le_of_lt h.own.box.lt))⟩
theorem Two.drewN {w0 w : World} {b : Nat} (h : Two w0 w b) (k : Nat) : Two w0 (w.drewN k) b :=
  ⟨h.own.drewN k, h.free.drewN k, Pack.below_drewN h.below k⟩
theorem two_new (w : World) (t : TypeId) : Two w ((w.alloc (.cells #[.int .i64 0, .int .i64 0, .int .i64 0] t)).alloc (.cells #[.int .i64 0, .int .i64 (-1), .int .i64 0] t)) w.heap.size := by
  have hb := (Below.refl w.heap.size w).alloc (Nat.le_refl _) (.cells #[.int .i64 0, .int .i64 0, .int .i64 0] t)
  have hb' := (Below.refl _ (w.alloc (.cells #[.int .i64 0, .int .i64 0, .int .i64 0] t))).alloc (Nat.le_refl _) (.cells #[.int .i64 0, .int .i64 (-1), .int .i64 0] t)
  exact ⟨(owned w 0 0 0 t).keep hb', boxed_at (World.size_alloc _ _) _ _ _ _, hb.trans (hb'.mono hb.size)⟩

theorem below_two (w : World) (o o' : Obj) : Below w.heap.size w ((w.alloc o).alloc o') := by
  have hb := (Below.refl w.heap.size w).alloc (Nat.le_refl _) o
  exact hb.alloc hb.size _

section
variable {w : World}
set_option maxHeartbeats 2000000 in
set_option maxRecDepth 100000 in
theorem refDecode_any (A : Option Addr) (c : Nat) (l : List Nat) (h : Pack.Wds w A l) :
    Calls Try.prog 14 #[.slice A l.length c] w fun r w' => r = .returned (rv (dec l)) ∧ Below w.heap.size w w' := by
  have hlen := h.len
  have HT := Lib.hid (two_new w 33)
  by_cases hl : l.length = 8
  · rw [hl]
    obtain ⟨b, o, rfl, hb, hcell⟩ := h.at' 0 (by omega)
    rw [Nat.add_zero] at hcell
    obtain ⟨b', o', e, _, hcell1⟩ := h.at' 1 (by omega)
    injection e with e
    injection e with e1 e2
    subst e1 e2
    have hx := h.u64 l[0] (List.getElem_mem _)
    have hy := h.u64 l[1] (List.getElem_mem _)
    have HD0 := Lib.hid (show l[0]?.getD 0 = l[0] by rw [List.getElem?_eq_getElem (by omega)]; rfl)
    have HD1 := Lib.hid (show l[1]?.getD 0 = l[1] by rw [List.getElem?_eq_getElem (by omega)]; rfl)
    have H := Lib.hid h
    have HL := Lib.hid hl
    clear h
    generalize l[0] = x at *
    generalize l[1] = y at *
    clear hl
    by_cases hxy : x < 4294967296 ∧ y ≤ 268435456
    · obtain ⟨h32, h28⟩ := hxy
      obtain ⟨k, hk⟩ : ∃ k, k = x % 65536 := ⟨_, rfl⟩
      obtain ⟨p, hp⟩ : ∃ p, p = x / 65536 := ⟨_, rfl⟩
      have hk1 : k < 65536 := by omega
      have hp1 : p < 65536 := by omega
      have HD := Lib.hid (show dec l = if may k ((p : Int) - 1) y = true ∧ l = ln k p y then some (k, p, y) else none by
        unfold dec
        simp only [HD0.out, HD1.out, ← hk, ← hp]
        by_cases hc : may k ((p : Int) - 1) y = true ∧ l = ln k p y
        · rw [if_pos hc, if_pos ⟨HL.out, h32, hc⟩]
        · rw [if_neg hc, if_neg (fun h => hc h.2.2)])
      obtain ⟨hd, hhd⟩ : ∃ hd, hd = (p : Int) - 1 := ⟨_, rfl⟩
      have HH := Lib.hid hhd
      have hxk : (x : Int) % 65536 = (k : Int) := by omega
      have hxp : (x : Int) / 65536 = (p : Int) := by omega
      have hwk : IntKind.wrap .i64 (k : Int) = (k : Int) := by rw [IntKind.wrap_i64]; omega
      have hwp : IntKind.wrap .i64 (p : Int) = (p : Int) := by rw [IntKind.wrap_i64]; omega
      have hwh : IntKind.wrap .i64 ((p : Int) - 1) = hd := by rw [IntKind.wrap_i64]; omega
      have hwy : IntKind.wrap .i64 (y : Int) = (y : Int) := by rw [IntKind.wrap_i64]; omega
      have HXK := Lib.hid hxk
      have HXP := Lib.hid hxp
      clear hk hp hhd HD0 HD1 hxk hxp
      have hx32 : ¬ (4294967295 : Int) < (x : Int) := by omega
      have hy28 : ¬ (268435456 : Int) < (y : Int) := by omega
      go_enter Try.func14, Try.ntmps14
      go_wp2
      have hc0 := (HT.out.below.cell (p := ⟨b, o, none⟩) hb).trans hcell
      have hc1 := (HT.out.below.cell (p := ⟨b, o + 1, none⟩) hb).trans hcell1
      have hbw : b < ((w.alloc (.cells #[.int .i64 0, .int .i64 0, .int .i64 0] 33)).alloc (.cells #[.int .i64 0, .int .i64 (-1), .int .i64 0] 33)).heap.size := Nat.lt_of_lt_of_le hb HT.out.below.size
      have H1 := Lib.hid (H.out.keep HT.out.below)
      clear hcell hcell1 H
      generalize (w.alloc (.cells #[.int .i64 0, .int .i64 0, .int .i64 0] 33)).alloc (.cells #[.int .i64 0, .int .i64 (-1), .int .i64 0] 33) = w1 at *
      have hxk := HXK.out
      have hxp := HXP.out
      go_region
      have hba := (Below.refl w1.heap.size w1).alloc (Nat.le_refl _) (.cells #[.int .i64 (k : Int), .int .i64 hd, .int .i64 (y : Int)] 33)
      have HT2 := Lib.hid (HT.out.keep hba.drew)
      have HG2 := Lib.hid (boxed w1 k hd y 33).drew
      have H2 := Lib.hid (H1.out.keep hba.drew)
      clear hwk hwp hwh hwy hba HT H1 hbw hc0 hc1 hxk hxp HXK HXP hb hx hy hx32 hy28 h32 h28
      go_wp2_with fail
      generalize (w1.alloc (.cells #[.int .i64 (k : Int), .int .i64 hd, .int .i64 (y : Int)] 33)).drew = w2 at *
      generalize w1.heap.size = k1 at *
      cases hmay : may k ((p : Int) - 1) y with
      | false =>
        have HN := Lib.hid (show dec l = none by rw [HD.out, if_neg (fun h => by rw [hmay] at h; simp at h)])
        refine (refEncode_no _ k hd y (by rw [HH.out]; exact hmay)).mono ?_
        rintro e w3 ⟨rfl, hb3⟩
        have HT3 := Lib.hid (HT2.out.keep hb3)
        have hc0 := HT3.out.own.box.c0
        have hc1 := HT3.out.own.box.c1
        have hc2 := HT3.out.own.box.c2
        have hf0 := HT3.out.own.f 0
        have hf1 := HT3.out.own.f 1
        have hf2 := HT3.out.own.f 2
        have hg0 := HT3.out.free.c0
        have hg1 := HT3.out.free.c1
        have hg2 := HT3.out.free.c2
        clear hb3 hmay HT2 H2 HD HH HG2
        go_wp2
        rw [HN.out]
        refine bodyPost_ret (v := rv none) ?_ rfl ⟨rfl, ?_⟩
        · simp [results, Try.results14, go_sem, rv, gv, hc0, hc1, hc2]
        · exact ((HT3.out.below.setCell (Nat.le_refl _) _).setCell (Nat.le_refl _) _).setCell (Nat.le_refl _) _
      | true =>
        refine (refEncode_yes _ k p y hd HH.out hmay).mono ?_
        rintro e w3 ⟨G, gc, rfl, hw, hb3⟩
        have HT3 := Lib.hid (HT2.out.keep hb3)
        have HG3 := Lib.hid (HG2.out.keep hb3)
        have H3 := Lib.hid (H2.out.keep hb3)
        have HW := Lib.hid hw
        have HM := Lib.hid hmay
        have hz3 : w.heap.size < w3.heap.size := HT3.out.own.box.lt
        have hz4 : w.heap.size + 1 < w3.heap.size := HT3.out.free.lt
        have hz5 : k1 < w3.heap.size := HG3.out.lt
        clear hb3 hmay HT2 HG2 H2 hw hlen hk1 hp1
        go_wp2
        go_loopw [52] (fun i wr => ∃ (j q : Nat), j ≤ 8 ∧ i = .int .i64 (j : Int) ∧ (ln k p y).take j = l.take j ∧ wr = w3.drewN q) (fun i _ => 8 - (intOf i).toNat)
        case atStart => exact ⟨0, 0, Nat.zero_le _, rfl, rfl, rfl⟩
        case round =>
          obtain ⟨j, q, hj, rfl, hs, rfl⟩ := hrel
          have HS := Lib.hid hs
          clear hs
          by_cases hlt : j < 8
          · have hlt1 : j < (ln k p y).length := by rw [ln_len]; exact hlt
            have hlt2 : j < l.length := by rw [HL.out]; exact hlt
            obtain ⟨b1, o1, rfl, hb1, hcell1⟩ := HW.out.at' j hlt1
            obtain ⟨b2, o2, e, hb2, hcell2⟩ := H3.out.at' j hlt2
            injection e with e
            injection e with e1 e2
            subst e1 e2
            have hi0 : (0 : Int) ≤ (j : Int) := by omega
            have hi1 : (j : Int) < 8 := by omega
            have HE := Lib.hid (show (ln k p y).take (j + 1) = l.take (j + 1) ↔ (ln k p y)[j] = l[j] by
              rw [List.take_succ_eq_append_getElem hlt1, List.take_succ_eq_append_getElem hlt2, HS.out, List.append_right_inj]
              simp)
            generalize (ln k p y)[j] = u at *
            generalize l[j] = z at *
            clear hlt1 hlt2
            by_cases huz : u = z
            · subst huz
              have HE1 := Lib.hid (HE.out.2 rfl)
              clear HE
              go_wp2
              go_quiet (fail)
              go_wp2
              refine ⟨⟨j + 1, q + nq, by omega, by go_num, HE1.out, rfl⟩, by simp [intOf]; omega⟩
            · have hne : ¬ (u : Int) = (z : Int) := by omega
              have HN := Lib.hid (show dec l = none by rw [HD.out, if_neg (fun h => huz (HE.out.1 (by rw [h.2])))])
              clear HE huz
              go_wp2
              go_quiet (fail)
              clear hi0 hi1 hcell1 hcell2
              have HT4 := Lib.hid (HT3.out.drewN (q + nq))
              have hc0 := HT4.out.own.box.c0
              have hc1 := HT4.out.own.box.c1
              have hc2 := HT4.out.own.box.c2
              have hf0 := HT4.out.own.f 0
              have hf1 := HT4.out.own.f 1
              have hf2 := HT4.out.own.f 2
              have hg0 := HT4.out.free.c0
              have hg1 := HT4.out.free.c1
              have hg2 := HT4.out.free.c2
              go_wp2
              rw [HN.out]
              refine bodyPost_ret (v := rv none) ?_ rfl ⟨rfl, ?_⟩
              · simp [results, Try.results14, go_sem, rv, gv, hc0, hc1, hc2]
              · exact ((HT4.out.below.setCell (Nat.le_refl _) _).setCell (Nat.le_refl _) _).setCell (Nat.le_refl _) _
          · obtain rfl : j = 8 := by omega
            have he : l = ln k p y := by
              have := HS.out
              rw [List.take_of_length_le (by rw [ln_len]; omega), List.take_of_length_le (by rw [HL.out]; omega)] at this
              exact this.symm
            have HN := Lib.hid (show dec l = some (k, p, y) by rw [HD.out, if_pos ⟨HM.out, he⟩])
            clear he
            have HT4 := Lib.hid (HT3.out.drewN q)
            have HG4 := Lib.hid (HG3.out.drewN q)
            have hc0 := HT4.out.own.box.c0
            have hc1 := HT4.out.own.box.c1
            have hc2 := HT4.out.own.box.c2
            have hf0 := HT4.out.own.f 0
            have hf1 := HT4.out.own.f 1
            have hf2 := HT4.out.own.f 2
            have hg0 := HG4.out.c0
            have hg1 := HG4.out.c1
            have hg2 := HG4.out.c2
            go_wp2
            rw [HN.out]
            refine bodyPost_ret (v := rv (some (k, p, y))) ?_ rfl ⟨rfl, ?_⟩
            · simp [results, Try.results14, go_sem, rv, gv, hc0, hc1, hc2, HH.out]
            · exact ((HT4.out.below.setCell (Nat.le_refl _) _).setCell (Nat.le_refl _) _).setCell (Nat.le_refl _) _
    · have HN := Lib.hid (show dec l = none by
        unfold dec
        simp only [HD0.out, HD1.out]
        exact if_neg (fun h => hxy ⟨h.2.1, (may_lt h.2.2.1).2.2⟩))
      by_cases h32 : x < 4294967296
      · have hx32 : ¬ (4294967295 : Int) < (x : Int) := by omega
        have hy28 : (268435456 : Int) < (y : Int) := by omega
        go_enter Try.func14, Try.ntmps14
        go_wp2
        rw [HN.out]
        refine bodyPost_ret (v := rv none) ?_ rfl ⟨rfl, ?_⟩
        · simp [results, Try.results14, go_sem, rv, gv]
        · exact below_two _ _ _
      · have hx32 : (4294967295 : Int) < (x : Int) := by omega
        go_enter Try.func14, Try.ntmps14
        go_wp2
        rw [HN.out]
        refine bodyPost_ret (v := rv none) ?_ rfl ⟨rfl, ?_⟩
        · simp [results, Try.results14, go_sem, rv, gv]
        · exact below_two _ _ _
  · have HN := Lib.hid (show dec l = none by
      unfold dec
      exact if_neg (fun h => hl h.1))
    have hl' : ¬ (l.length : Int) = 8 := by omega
    go_enter Try.func14, Try.ntmps14
    go_wp2
    rw [HN.out]
    refine bodyPost_ret (v := rv none) ?_ rfl ⟨rfl, ?_⟩
    · simp [results, Try.results14, go_sem, rv, gv]
    · exact below_two _ _ _
end
end Ino
end Go.Proofs.Ytoigfhijlnajoaa
