/- Decode, walked. -/
import Derived.Test.YthfkbfbchoekjaaSupEqual
namespace Go.Proofs.Ythfkbfbchoekjaa
open Go.RowKit Go.MapKept
namespace Sup

/-- a geometry, zero if there is none -/
def gv : Option (Nat × Nat × Nat) → Value
  | some (n, m, s) => .agg #[.int .i64 (n : Int), .int .i64 (m : Int), .int .i64 (s : Int)]
  | none => .agg #[.int .i64 0, .int .i64 0, .int .i64 0]
/-- the error -/
def ev : Option (Nat × Nat × Nat) → Int
  | some _ => 0
  | none => 2

theorem nts_three (w : World) : Pack.Nts (w.alloc (.cells #[.int .i64 16, .int .i64 16, .int .i64 16] 3)) (some ⟨w.heap.size, 0, none⟩) [16, 16, 16] :=
  ⟨fun f hf => by
    obtain rfl : f = 16 := by simpa using hf
    exact ⟨by decide, by decide⟩, by decide, fun j hj => by
    have : j < 3 := hj
    match j, this with
    | 0, _ => exact ⟨w.heap.size, 0, rfl, by simp, Pack.alloc_cell _ _ _ _⟩
    | 1, _ => exact ⟨w.heap.size, 0, rfl, by simp, Pack.alloc_cell _ _ _ _⟩
    | 2, _ => exact ⟨w.heap.size, 0, rfl, by simp, Pack.alloc_cell _ _ _ _⟩⟩

theorem split_no (w : World) (N : Nat) (hN : w.heap.size = N) (x : Nat) (hx : x < 18446744073709551616) (h : ¬ x < 281474976710656) : Calls Try.prog 28 #[.int .u64 (x : Int), .slice (some ⟨N, 0, none⟩) 3 3] (w.alloc (.cells #[.int .i64 16, .int .i64 16, .int .i64 16] 3)) fun e w' => ∃ (G : Option Addr) (gc : Nat), e = .returned (.tuple #[.slice G 0 gc, .bool false]) ∧ Below w.heap.size w w' := by
  subst hN
  refine (Pack.split_any x hx _ 3 _ (nts_three w)).mono ?_
  rintro e w' ⟨G, gc, rfl, hw, hb⟩
  have hb0 := (Below.refl w.heap.size w).alloc (Nat.le_refl _) (.cells #[.int .i64 16, .int .i64 16, .int .i64 16] 3)
  rw [split_nums, if_neg h]
  exact ⟨G, gc, rfl, hb0.trans (hb.mono hb0.size)⟩

theorem split_yes (w : World) (N : Nat) (hN : w.heap.size = N) (x : Nat) (h : x < 281474976710656) : Calls Try.prog 28 #[.int .u64 (x : Int), .slice (some ⟨N, 0, none⟩) 3 3] (w.alloc (.cells #[.int .i64 16, .int .i64 16, .int .i64 16] 3)) fun e w' => ∃ (b o gc : Nat), e = .returned (.tuple #[.slice (some ⟨b, o, none⟩) 3 gc, .bool true]) ∧ (b < w'.heap.size ∧ w'.cell? ⟨b, o, none⟩ = some (.int .u64 ((x % 65536 : Nat) : Int)) ∧ w'.cell? ⟨b, o + 1, none⟩ = some (.int .u64 ((x / 65536 % 65536 : Nat) : Int)) ∧ w'.cell? ⟨b, o + 2, none⟩ = some (.int .u64 ((x / 4294967296 : Nat) : Int))) ∧ Below w.heap.size w w' := by
  subst hN
  refine (Pack.split_any x (by omega) _ 3 _ (nts_three w)).mono ?_
  rintro e w' ⟨G, gc, rfl, hw, hb⟩
  have hb0 := (Below.refl w.heap.size w).alloc (Nat.le_refl _) (.cells #[.int .i64 16, .int .i64 16, .int .i64 16] 3)
  have e : x / 4294967296 % 65536 = x / 4294967296 := by omega
  rw [split_nums, if_pos h, e] at hw ⊢
  simp only [Option.getD_some] at hw
  obtain ⟨b, o, rfl, hlt, hc0⟩ := hw.at' 0 (by simp)
  obtain ⟨b', o', e, _, hc1⟩ := hw.at' 1 (by simp)
  injection e with e
  injection e with e1 e2
  subst e1 e2
  obtain ⟨b', o', e, _, hc2⟩ := hw.at' 2 (by simp)
  injection e with e
  injection e with e1 e2
  subst e1 e2
  exact ⟨b, o, gc, rfl, ⟨hlt, hc0, hc1, hc2⟩, hb0.trans (hb.mono hb0.size)⟩

/-- a geometry of the call's own in block b -/
structure Own (w : World) (b : Nat) (n m s : Int) : Prop where
  box : Geo.Box w b n m s
  f : ∀ o, w.frozen? ⟨b, o, none⟩ = false
theorem Own.keep {w w' : World} {b : Nat} {n m s : Int} (h : Own w b n m s) (hb : Below w.heap.size w w') : Own w' b n m s :=
  ⟨h.box.keep hb, fun o => (hb.frozen (p := ⟨b, o, none⟩) h.box.lt).trans (h.f o)⟩
theorem Own.drew {w : World} {b : Nat} {n m s : Int} (h : Own w b n m s) : Own w.drew b n m s := ⟨h.box.drew, h.f⟩
theorem owned (w : World) (n m s : Int) (t : TypeId) : Own (w.alloc (.cells #[.int .i64 n, .int .i64 m, .int .i64 s] t)) w.heap.size n m s :=
  ⟨Geo.boxed w n m s t, fun o => (World.rowIs_alloc w #[.int .i64 n, .int .i64 m, .int .i64 s] t (fun i => if i = 0 then .int .i64 n else if i = 1 then .int .i64 m else .int .i64 s) (fun i hi => by
    have : i < 3 := hi
    match i, this with
    | 0, _ => rfl
    | 1, _ => rfl
    | 2, _ => rfl)).frozen o⟩

section
variable {w : World}
set_option maxHeartbeats 2000000 in
set_option maxRecDepth 100000 in
theorem decode_any (A : Option Addr) (c : Nat) (l : List Nat) (h : Pack.Wds w A l) :
    Calls Try.prog 11 #[.slice A l.length c] w fun r w' => r = .returned (.tuple #[gv (dec l), .int .i64 (ev (dec l))]) ∧ Below w.heap.size w w' := by
  have hlen := h.len
  have HB := Lib.hid ((Below.refl w.heap.size w).alloc (Nat.le_refl _) (.cells #[.int .i64 0, .int .i64 0, .int .i64 0] 24))
  have HX := Lib.hid (owned w 0 0 0 24)
  by_cases hl : l.length = 8
  · rw [hl]
    obtain ⟨b, o, rfl, hb, hcell⟩ := h.at' 1 (by omega)
    have hx := h.u64 l[1] (List.getElem_mem _)
    have HD := Lib.hid (show l[1]?.getD 0 = l[1] by rw [List.getElem?_eq_getElem (by omega)]; rfl)
    have H := Lib.hid h
    have HL := Lib.hid hl
    clear h
    generalize l[1] = x at *
    clear hl
    by_cases h48 : x < 281474976710656
    · obtain ⟨n, hn⟩ : ∃ n, n = x % 65536 := ⟨_, rfl⟩
      obtain ⟨m, hm⟩ : ∃ m, m = x / 65536 % 65536 := ⟨_, rfl⟩
      obtain ⟨s, hs⟩ : ∃ s, s = x / 4294967296 := ⟨_, rfl⟩
      have hn1 : n < 65536 := by omega
      have hm1 : m < 65536 := by omega
      have hs1 : s < 65536 := by omega
      have HS := Lib.hid (split_yes (w.alloc (.cells #[.int .i64 0, .int .i64 0, .int .i64 0] 24)) (w.heap.size + 1) (World.size_alloc _ _) x h48)
      rw [← hn, ← hm, ← hs] at HS
      have HD := Lib.hid (show dec l = if Geo.may n m s = true ∧ l = sb n m s then some (n, m, s) else none by
        unfold dec
        simp only [HD.out, ← hn, ← hm, ← hs]
        by_cases hc : Geo.may n m s = true ∧ l = sb n m s
        · rw [if_pos hc, if_pos ⟨HL.out, h48, hc⟩]
        · rw [if_neg hc, if_neg (fun h => hc h.2.2)])
      clear hn hm hs h48
      go_enter Try.func11, Try.ntmps11
      go_wp2_with fail
      refine HS.out.mono ?_
      rintro e w1 ⟨b1, o1, gc, rfl, ⟨hb1, hq0, hq1, hq2⟩, hbw⟩
      have HX1 := Lib.hid (HX.out.keep hbw)
      have HB1 := Lib.hid (HB.out.trans (hbw.mono HB.out.size))
      have hz1 : w.heap.size < w1.heap.size := HX1.out.box.lt
      have H1 := Lib.hid (H.out.keep HB1.out)
      have hwn : IntKind.wrap .i64 (n : Int) = (n : Int) := by rw [IntKind.wrap_i64]; omega
      have hwm : IntKind.wrap .i64 (m : Int) = (m : Int) := by rw [IntKind.wrap_i64]; omega
      have hws : IntKind.wrap .i64 (s : Int) = (s : Int) := by rw [IntKind.wrap_i64]; omega
      clear hbw HS HX HB H hcell
      go_wp2
      go_region
      have hba := (Below.refl w1.heap.size w1).alloc (Nat.le_refl _) (.cells #[.int .i64 (n : Int), .int .i64 (m : Int), .int .i64 (s : Int)] 24)
      have HX2 := Lib.hid (HX1.out.keep hba).drew
      have HG2 := Lib.hid (Geo.boxed w1 n m s 24).drew
      have HB2 := Lib.hid (HB1.out.trans (hba.mono HB1.out.size)).drew
      have H2 := Lib.hid (H1.out.keep hba.drew)
      clear hwn hwm hws hba HX1 HB1 H1 hb1 hq0 hq1 hq2
      go_wp2_with fail
      generalize (w1.alloc (.cells #[.int .i64 (n : Int), .int .i64 (m : Int), .int .i64 (s : Int)] 24)).drew = w2 at *
      generalize w1.heap.size = k1 at *
      cases hmay : Geo.may n m s with
      | false =>
        have HN := Lib.hid (show dec l = none by rw [HD.out, if_neg (fun h => by rw [hmay] at h; simp at h)])
        refine (encode_no _ n m s hmay).mono ?_
        rintro e w3 ⟨rfl, hb3⟩
        have HX3 := Lib.hid (HX2.out.keep hb3)
        have HB3 := Lib.hid (HB2.out.trans (hb3.mono HB2.out.size))
        clear hb3 hmay HX2 HB2 H2 HD
        have hc0 := HX3.out.box.c0
        have hc1 := HX3.out.box.c1
        have hc2 := HX3.out.box.c2
        have hf0 := HX3.out.f 0
        have hf1 := HX3.out.f 1
        have hf2 := HX3.out.f 2
        go_wp2
        rw [HN.out]
        refine bodyPost_ret (v := .tuple #[gv none, .int .i64 (ev none)]) ?_ rfl ⟨rfl, ?_⟩
        · simp [results, Try.results11, go_sem, gv, ev, hc0, hc1, hc2]
        · exact ((HB3.out.setCell (Nat.le_refl _) _).setCell (Nat.le_refl _) _).setCell (Nat.le_refl _) _
      | true =>
        refine (encode_yes _ n m s hmay).mono ?_
        rintro e w3 ⟨g, hg, rfl, hrow, hb3⟩
        have he := equal_any (some ⟨b, o, none⟩) (some ⟨g, 0, none⟩) c 8 l (sb n m s) (H2.out.keep hb3) (row_pack hrow rfl (sb_u64 hn1 hm1 hs1))
        rw [HL.out, sb_len] at he
        have HE := Lib.hid he
        have HX3 := Lib.hid (HX2.out.keep hb3)
        have HG3 := Lib.hid (HG2.out.keep hb3)
        have HB3 := Lib.hid (HB2.out.trans (hb3.mono HB2.out.size))
        have HM := Lib.hid hmay
        clear hb3 hmay HX2 HB2 H2 he hrow HG2
        go_wp2_with fail
        refine HE.out.mono ?_
        rintro e w4 ⟨rfl, k, hk⟩
        have HX4 := Lib.hid (show Own w4 w.heap.size 0 0 0 by rw [hk]; exact ⟨⟨HX3.out.box.lt, HX3.out.box.c0, HX3.out.box.c1, HX3.out.box.c2⟩, HX3.out.f⟩)
        have HG4 := Lib.hid (show Geo.Box w4 k1 n m s by rw [hk]; exact ⟨HG3.out.lt, HG3.out.c0, HG3.out.c1, HG3.out.c2⟩)
        have HB4 := Lib.hid (show Below w.heap.size w w4 by rw [hk]; exact Pack.below_drewN HB3.out k)
        clear hk HX3 HG3 HB3 HE
        have hc0 := HX4.out.box.c0
        have hc1 := HX4.out.box.c1
        have hc2 := HX4.out.box.c2
        have hf0 := HX4.out.f 0
        have hf1 := HX4.out.f 1
        have hf2 := HX4.out.f 2
        have hg0 := HG4.out.c0
        have hg1 := HG4.out.c1
        have hg2 := HG4.out.c2
        by_cases hls : l = sb n m s
        · have HN := Lib.hid (show dec l = some (n, m, s) by rw [HD.out, if_pos ⟨HM.out, hls⟩])
          rw [decide_eq_true hls]
          clear hls HD HM
          go_wp2
          rw [HN.out]
          refine bodyPost_ret (v := .tuple #[gv (some (n, m, s)), .int .i64 (ev (some (n, m, s)))]) ?_ rfl ⟨rfl, ?_⟩
          · simp [results, Try.results11, go_sem, gv, ev, hc0, hc1, hc2]
          · exact ((HB4.out.setCell (Nat.le_refl _) _).setCell (Nat.le_refl _) _).setCell (Nat.le_refl _) _
        · have HN := Lib.hid (show dec l = none by rw [HD.out, if_neg (fun h => hls h.2)])
          rw [decide_eq_false hls]
          clear hls HD HM
          go_wp2
          rw [HN.out]
          refine bodyPost_ret (v := .tuple #[gv none, .int .i64 (ev none)]) ?_ rfl ⟨rfl, ?_⟩
          · simp [results, Try.results11, go_sem, gv, ev, hc0, hc1, hc2]
          · exact ((HB4.out.setCell (Nat.le_refl _) _).setCell (Nat.le_refl _) _).setCell (Nat.le_refl _) _
    · have HN := Lib.hid (show dec l = none by
        unfold dec
        simp only [HD.out]
        exact if_neg (fun h => h48 h.2.1))
      have HS := Lib.hid (split_no (w.alloc (.cells #[.int .i64 0, .int .i64 0, .int .i64 0] 24)) (w.heap.size + 1) (World.size_alloc _ _) x hx h48)
      go_enter Try.func11, Try.ntmps11
      go_wp2_with fail
      refine HS.out.mono ?_
      rintro e w1 ⟨G, gc, rfl, hb1⟩
      have HX1 := Lib.hid (HX.out.keep hb1)
      have HB1 := Lib.hid (HB.out.trans (hb1.mono HB.out.size))
      clear hb1
      have hc0 := HX1.out.box.c0
      have hc1 := HX1.out.box.c1
      have hc2 := HX1.out.box.c2
      have hf0 := HX1.out.f 0
      have hf1 := HX1.out.f 1
      have hf2 := HX1.out.f 2
      go_wp2
      rw [HN.out]
      refine bodyPost_ret (v := .tuple #[gv none, .int .i64 (ev none)]) ?_ rfl ⟨rfl, ?_⟩
      · simp [results, Try.results11, go_sem, gv, ev, hc0, hc1, hc2]
      · exact ((HB1.out.setCell (Nat.le_refl _) _).setCell (Nat.le_refl _) _).setCell (Nat.le_refl _) _
  · have HN := Lib.hid (show dec l = none by
      unfold dec
      exact if_neg (fun h => hl h.1))
    have hl' : ¬ (l.length : Int) = 8 := by omega
    go_enter Try.func11, Try.ntmps11
    go_wp2
    rw [HN.out]
    refine bodyPost_ret (v := .tuple #[gv none, .int .i64 (ev none)]) ?_ rfl ⟨rfl, ?_⟩
    · simp [results, Try.results11, go_sem, gv, ev]
    · exact HB.out
end
end Sup
end Go.Proofs.Ythfkbfbchoekjaa
