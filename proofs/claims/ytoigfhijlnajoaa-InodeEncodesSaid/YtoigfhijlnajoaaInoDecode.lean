/- Decode, walked. -/
import Derived.Test.YtoigfhijlnajoaaInoEncode
import Derived.Test.YtoigfhijlnajoaaLinEqual
namespace Go.Proofs.Ytoigfhijlnajoaa
open Go.RowKit Go.MapKept
namespace Ino
open Lin

/-- an inode, the free one if there is none -/
def gv : Option (Nat × Nat × Nat) → Value
  | some (k, p, s) => .agg #[.int .i64 (k : Int), .int .i64 ((p : Int) - 1), .int .i64 (s : Int)]
  | none => .agg #[.int .i64 0, .int .i64 (-1), .int .i64 0]
/-- the error -/
def ev : Option (Nat × Nat × Nat) → Int
  | some _ => 0
  | none => 2

theorem split_no (w : World) (N : Nat) (hN : w.heap.size = N) (x : Nat) (hx : x < 18446744073709551616) (h : ¬ x < 4294967296) : Calls Try.prog 25 #[.int .u64 (x : Int), .slice (some ⟨N, 0, none⟩) 2 2] (w.alloc (.cells #[.int .i64 16, .int .i64 16] 3)) fun e w' => ∃ (G : Option Addr) (gc : Nat), e = .returned (.tuple #[.slice G 0 gc, .bool false]) ∧ Below w.heap.size w w' := by
  subst hN
  refine (Pack.split_any x hx _ 2 _ (nts_two w)).mono ?_
  rintro e w' ⟨G, gc, rfl, hw, hb⟩
  have hb0 := (Below.refl w.heap.size w).alloc (Nat.le_refl _) (.cells #[.int .i64 16, .int .i64 16] 3)
  rw [split_nums, if_neg h]
  exact ⟨G, gc, rfl, hb0.trans (hb.mono hb0.size)⟩

theorem split_yes (w : World) (N : Nat) (hN : w.heap.size = N) (x : Nat) (h : x < 4294967296) : Calls Try.prog 25 #[.int .u64 (x : Int), .slice (some ⟨N, 0, none⟩) 2 2] (w.alloc (.cells #[.int .i64 16, .int .i64 16] 3)) fun e w' => ∃ (b o gc : Nat), e = .returned (.tuple #[.slice (some ⟨b, o, none⟩) 2 gc, .bool true]) ∧ (b < w'.heap.size ∧ w'.cell? ⟨b, o, none⟩ = some (.int .u64 ((x % 65536 : Nat) : Int)) ∧ w'.cell? ⟨b, o + 1, none⟩ = some (.int .u64 ((x / 65536 : Nat) : Int))) ∧ Below w.heap.size w w' := by
  subst hN
  refine (Pack.split_any x (by omega) _ 2 _ (nts_two w)).mono ?_
  rintro e w' ⟨G, gc, rfl, hw, hb⟩
  have hb0 := (Below.refl w.heap.size w).alloc (Nat.le_refl _) (.cells #[.int .i64 16, .int .i64 16] 3)
  have e : x / 65536 % 65536 = x / 65536 := by omega
  rw [split_nums, if_pos h, e] at hw ⊢
  simp only [Option.getD_some] at hw
  obtain ⟨b, o, rfl, hlt, hc0⟩ := hw.at' 0 (by simp)
  obtain ⟨b', o', e, _, hc1⟩ := hw.at' 1 (by simp)
  injection e with e
  injection e with e1 e2
  subst e1 e2
  exact ⟨b, o, gc, rfl, ⟨hlt, hc0, hc1⟩, hb0.trans (hb.mono hb0.size)⟩

section
variable {w : World}
set_option maxHeartbeats 2000000 in
set_option maxRecDepth 100000 in
theorem decode_any (A : Option Addr) (c : Nat) (l : List Nat) (h : Pack.Wds w A l) :
    Calls Try.prog 13 #[.slice A l.length c] w fun r w' => r = .returned (.tuple #[gv (dec l), .int .i64 (ev (dec l))]) ∧ Below w.heap.size w w' := by
  have hlen := h.len
  have HB := Lib.hid ((Below.refl w.heap.size w).alloc (Nat.le_refl _) (.cells #[.int .i64 0, .int .i64 0, .int .i64 0] 24))
  have HX := Lib.hid (owned w 0 0 0 24)
  have HNN := Lib.hid none_any
  by_cases hl : l.length = 8
  · rw [hl]
    obtain ⟨b, o, rfl, hb, hcell⟩ := h.at' 0 (by omega)
    rw [Nat.add_zero] at hcell
    obtain ⟨b', o', e, _, hcell1⟩ := h.at' 1 (by omega)
    injection e with e
    injection e with e1 e2
    subst e1 e2
    have hx := h.u64 l[0] (List.getElem_mem _)
    have hy := h.u64 l[1] (List.getElem_mem _)
    have HD0 := Lib.hid (show l[0]?.getD 0 = l[0] by rw [List.getElem?_eq_getElem (by omega)]; rfl)
    have HD1 := Lib.hid (show l[1]?.getD 0 = l[1] by rw [List.getElem?_eq_getElem (by omega)]; rfl)
    have H := Lib.hid h
    have HL := Lib.hid hl
    clear h
    generalize l[0] = x at *
    generalize l[1] = y at *
    clear hl
    by_cases h32 : x < 4294967296
    · obtain ⟨k, hk⟩ : ∃ k, k = x % 65536 := ⟨_, rfl⟩
      obtain ⟨p, hp⟩ : ∃ p, p = x / 65536 := ⟨_, rfl⟩
      have hk1 : k < 65536 := by omega
      have hp1 : p < 65536 := by omega
      have HS := Lib.hid (split_yes (w.alloc (.cells #[.int .i64 0, .int .i64 0, .int .i64 0] 24)) (w.heap.size + 1) (World.size_alloc _ _) x h32)
      rw [← hk, ← hp] at HS
      have HD := Lib.hid (show dec l = if may k ((p : Int) - 1) y = true ∧ l = ln k p y then some (k, p, y) else none by
        unfold dec
        simp only [HD0.out, HD1.out, ← hk, ← hp]
        by_cases hc : may k ((p : Int) - 1) y = true ∧ l = ln k p y
        · rw [if_pos hc, if_pos ⟨HL.out, h32, hc⟩]
        · rw [if_neg hc, if_neg (fun h => hc h.2.2)])
      clear hk hp h32 HD0 HD1
      obtain ⟨S, hS⟩ : ∃ S, S = IntKind.wrap .i64 (y : Int) := ⟨_, rfl⟩
      obtain ⟨hd, hhd⟩ : ∃ hd, hd = (p : Int) - 1 := ⟨_, rfl⟩
      have HMS := Lib.hid (show may k hd S = may k ((p : Int) - 1) y by
        rw [← hhd]
        rw [IntKind.wrap_i64] at hS
        by_cases h63 : y < 9223372036854775808
        · have : S = (y : Int) := by omega
          rw [this]
        · have h1 : may k hd S = false := by
            unfold may May
            exact decide_eq_false (by omega)
          have h2 : may k hd y = false := by
            unfold may May
            exact decide_eq_false (by omega)
          rw [h1, h2])
      have HSY := Lib.hid (show may k ((p : Int) - 1) y = true → S = (y : Int) by
        intro hm
        have := (may_lt hm).2.2
        rw [IntKind.wrap_i64] at hS
        omega)
      have hwk : IntKind.wrap .i64 (k : Int) = (k : Int) := by rw [IntKind.wrap_i64]; omega
      have hwp : IntKind.wrap .i64 (p : Int) = (p : Int) := by rw [IntKind.wrap_i64]; omega
      have hwh : IntKind.wrap .i64 ((p : Int) - 1) = hd := by rw [IntKind.wrap_i64]; omega
      have hwy : IntKind.wrap .i64 (y : Int) = S := hS.symm
      have HH := Lib.hid hhd
      clear hS hhd
      go_enter Try.func13, Try.ntmps13
      go_wp2_with fail
      refine HS.out.mono ?_
      rintro e w1 ⟨b1, o1, gc, rfl, ⟨hb1, hq0, hq1⟩, hbw⟩
      have HX1 := Lib.hid (HX.out.keep hbw)
      have HB1 := Lib.hid (HB.out.trans (hbw.mono HB.out.size))
      have hz1 : w.heap.size < w1.heap.size := HX1.out.box.lt
      have hcy : w1.cell? ⟨b, o + 1, none⟩ = some (.int .u64 (y : Int)) := (HB1.out.cell (p := ⟨b, o + 1, none⟩) hb).trans hcell1
      have hbw1 : b < w1.heap.size := Nat.lt_of_lt_of_le hb HB1.out.size
      have H1 := Lib.hid (H.out.keep HB1.out)
      clear hbw HS HX HB H hcell hcell1
      go_wp2
      go_region
      have hba := (Below.refl w1.heap.size w1).alloc (Nat.le_refl _) (.cells #[.int .i64 (k : Int), .int .i64 hd, .int .i64 S] 24)
      have HX2 := Lib.hid (HX1.out.keep hba).drew
      have HG2 := Lib.hid (boxed w1 k hd S 24).drew
      have HB2 := Lib.hid (HB1.out.trans (hba.mono HB1.out.size)).drew
      have H2 := Lib.hid (H1.out.keep hba.drew)
      clear hwk hwp hwh hwy hba HX1 HB1 H1 hb1 hq0 hq1 hcy hbw1
      go_wp2_with fail
      generalize (w1.alloc (.cells #[.int .i64 (k : Int), .int .i64 hd, .int .i64 S] 24)).drew = w2 at *
      generalize w1.heap.size = k1 at *
      cases hmay : may k ((p : Int) - 1) y with
      | false =>
        have HN := Lib.hid (show dec l = none by rw [HD.out, if_neg (fun h => by rw [hmay] at h; simp at h)])
        refine (encode_no _ k hd S (by rw [HMS.out]; exact hmay)).mono ?_
        rintro e w3 ⟨rfl, hb3⟩
        have HX3 := Lib.hid (HX2.out.keep hb3)
        have HB3 := Lib.hid (HB2.out.trans (hb3.mono HB2.out.size))
        clear hb3 hmay HX2 HB2 H2 HD HMS HSY HH
        go_wp2_with fail
        refine (HNN.out _).mono ?_
        rintro e w4 ⟨rfl, hb4⟩
        have HX4 := Lib.hid (HX3.out.keep hb4)
        have HB4 := Lib.hid (HB3.out.trans (hb4.mono HB3.out.size))
        clear hb4 HX3 HB3
        have hc0 := HX4.out.box.c0
        have hc1 := HX4.out.box.c1
        have hc2 := HX4.out.box.c2
        have hf0 := HX4.out.f 0
        have hf1 := HX4.out.f 1
        have hf2 := HX4.out.f 2
        go_wp2
        rw [HN.out]
        refine bodyPost_ret (v := .tuple #[gv none, .int .i64 (ev none)]) ?_ rfl ⟨rfl, ?_⟩
        · simp [results, Try.results13, go_sem, gv, ev, hc0, hc1, hc2]
        · exact ((HB4.out.setCell (Nat.le_refl _) _).setCell (Nat.le_refl _) _).setCell (Nat.le_refl _) _
      | true =>
        obtain rfl := HSY.out hmay
        refine (encode_yes _ k p y hd HH.out hmay).mono ?_
        rintro e w3 ⟨g, hg, rfl, hrow, hb3⟩
        have he := equal_any (some ⟨b, o, none⟩) (some ⟨g, 0, none⟩) c 8 l (ln k p y) (H2.out.keep hb3) (row_pack hrow (ln_len _ _ _) (ln_u64 hmay))
        rw [HL.out, ln_len] at he
        have HE := Lib.hid he
        have HX3 := Lib.hid (HX2.out.keep hb3)
        have HG3 := Lib.hid (HG2.out.keep hb3)
        have HB3 := Lib.hid (HB2.out.trans (hb3.mono HB2.out.size))
        have HM := Lib.hid hmay
        clear hb3 hmay HX2 HB2 H2 he hrow HG2 HMS HSY
        go_wp2_with fail
        refine HE.out.mono ?_
        rintro e w4 ⟨rfl, q, hq⟩
        have HX4 := Lib.hid (show Own w4 w.heap.size 0 0 0 by rw [hq]; exact HX3.out.drewN q)
        have HG4 := Lib.hid (show Box w4 k1 k hd y by rw [hq]; exact HG3.out.drewN q)
        have HB4 := Lib.hid (show Below w.heap.size w w4 by rw [hq]; exact Pack.below_drewN HB3.out q)
        clear hq HX3 HG3 HB3 HE
        by_cases hls : l = ln k p y
        · have HN := Lib.hid (show dec l = some (k, p, y) by rw [HD.out, if_pos ⟨HM.out, hls⟩])
          rw [decide_eq_true hls]
          have hc0 := HX4.out.box.c0
          have hc1 := HX4.out.box.c1
          have hc2 := HX4.out.box.c2
          have hf0 := HX4.out.f 0
          have hf1 := HX4.out.f 1
          have hf2 := HX4.out.f 2
          have hg0 := HG4.out.c0
          have hg1 := HG4.out.c1
          have hg2 := HG4.out.c2
          clear hls HD HM
          go_wp2
          rw [HN.out]
          refine bodyPost_ret (v := .tuple #[gv (some (k, p, y)), .int .i64 (ev (some (k, p, y)))]) ?_ rfl ⟨rfl, ?_⟩
          · simp [results, Try.results13, go_sem, gv, ev, hc0, hc1, hc2, HH.out]
          · exact ((HB4.out.setCell (Nat.le_refl _) _).setCell (Nat.le_refl _) _).setCell (Nat.le_refl _) _
        · have HN := Lib.hid (show dec l = none by rw [HD.out, if_neg (fun h => hls h.2)])
          rw [decide_eq_false hls]
          clear hls HD HM
          go_wp2_with fail
          refine (HNN.out _).mono ?_
          rintro e w5 ⟨rfl, hb5⟩
          have HX5 := Lib.hid (HX4.out.keep hb5)
          have HB5 := Lib.hid (HB4.out.trans (hb5.mono HB4.out.size))
          clear hb5 HX4 HB4
          have hc0 := HX5.out.box.c0
          have hc1 := HX5.out.box.c1
          have hc2 := HX5.out.box.c2
          have hf0 := HX5.out.f 0
          have hf1 := HX5.out.f 1
          have hf2 := HX5.out.f 2
          go_wp2
          rw [HN.out]
          refine bodyPost_ret (v := .tuple #[gv none, .int .i64 (ev none)]) ?_ rfl ⟨rfl, ?_⟩
          · simp [results, Try.results13, go_sem, gv, ev, hc0, hc1, hc2]
          · exact ((HB5.out.setCell (Nat.le_refl _) _).setCell (Nat.le_refl _) _).setCell (Nat.le_refl _) _
    · have HN := Lib.hid (show dec l = none by
        unfold dec
        simp only [HD0.out]
        exact if_neg (fun h => h32 h.2.1))
      have HS := Lib.hid (split_no (w.alloc (.cells #[.int .i64 0, .int .i64 0, .int .i64 0] 24)) (w.heap.size + 1) (World.size_alloc _ _) x hx h32)
      go_enter Try.func13, Try.ntmps13
      go_wp2_with fail
      refine HS.out.mono ?_
      rintro e w1 ⟨G, gc, rfl, hb1⟩
      have HX1 := Lib.hid (HX.out.keep hb1)
      have HB1 := Lib.hid (HB.out.trans (hb1.mono HB.out.size))
      clear hb1
      go_wp2_with fail
      refine (HNN.out _).mono ?_
      rintro e w5 ⟨rfl, hb5⟩
      have HX5 := Lib.hid (HX1.out.keep hb5)
      have HB5 := Lib.hid (HB1.out.trans (hb5.mono HB1.out.size))
      clear hb5 HX1 HB1
      have hc0 := HX5.out.box.c0
      have hc1 := HX5.out.box.c1
      have hc2 := HX5.out.box.c2
      have hf0 := HX5.out.f 0
      have hf1 := HX5.out.f 1
      have hf2 := HX5.out.f 2
      go_wp2
      rw [HN.out]
      refine bodyPost_ret (v := .tuple #[gv none, .int .i64 (ev none)]) ?_ rfl ⟨rfl, ?_⟩
      · simp [results, Try.results13, go_sem, gv, ev, hc0, hc1, hc2]
      · exact ((HB5.out.setCell (Nat.le_refl _) _).setCell (Nat.le_refl _) _).setCell (Nat.le_refl _) _
  · have HN := Lib.hid (show dec l = none by
      unfold dec
      exact if_neg (fun h => hl h.1))
    have hl' : ¬ (l.length : Int) = 8 := by omega
    go_enter Try.func13, Try.ntmps13
    go_wp2_with fail
    refine (HNN.out _).mono ?_
    rintro e w5 ⟨rfl, hb5⟩
    have HX5 := Lib.hid (HX.out.keep hb5)
    have HB5 := Lib.hid (HB.out.trans (hb5.mono HB.out.size))
    clear hb5 HX HB
    have hc0 := HX5.out.box.c0
    have hc1 := HX5.out.box.c1
    have hc2 := HX5.out.box.c2
    have hf0 := HX5.out.f 0
    have hf1 := HX5.out.f 1
    have hf2 := HX5.out.f 2
    go_wp2
    rw [HN.out]
    refine bodyPost_ret (v := .tuple #[gv none, .int .i64 (ev none)]) ?_ rfl ⟨rfl, ?_⟩
    · simp [results, Try.results13, go_sem, gv, ev, hc0, hc1, hc2]
    · exact ((HB5.out.setCell (Nat.le_refl _) _).setCell (Nat.le_refl _) _).setCell (Nat.le_refl _) _
end
end Ino
end Go.Proofs.Ytoigfhijlnajoaa
