/- Decode, walked. -/
import Derived.Test.YtjhmmllifecfkaaSloEncode
namespace Go.Proofs.Ytjhmmllifecfkaa
open Go.RowKit Go.MapKept
namespace Slo
open Lin

/-- a slot, zero if there is none -/
def gv : Option (Nat × Nat × Nat) → Value
  | some (s, c, q) => .agg #[.int .i64 (s : Int), .int .i64 (c : Int), .int .i64 (nx q)]
  | none => .agg #[.int .i64 0, .int .i64 0, .int .i64 0]
/-- the error -/
def ev : Option (Nat × Nat × Nat) → Int
  | some _ => 0
  | none => 2

theorem nts_four (w : World) : Pack.Nts (w.alloc (.cells #[.int .i64 16, .int .i64 16, .int .i64 16, .int .i64 16] 3)) (some ⟨w.heap.size, 0, none⟩) [16, 16, 16, 16] :=
  ⟨fun f hf => by
    obtain rfl : f = 16 := by simpa using hf
    exact ⟨by decide, by decide⟩, by decide, fun j hj => by
    have : j < 4 := hj
    match j, this with
    | 0, _ => exact ⟨w.heap.size, 0, rfl, by simp, Pack.alloc_cell _ _ _ _⟩
    | 1, _ => exact ⟨w.heap.size, 0, rfl, by simp, Pack.alloc_cell _ _ _ _⟩
    | 2, _ => exact ⟨w.heap.size, 0, rfl, by simp, Pack.alloc_cell _ _ _ _⟩
    | 3, _ => exact ⟨w.heap.size, 0, rfl, by simp, Pack.alloc_cell _ _ _ _⟩⟩

theorem split_any (w : World) (N : Nat) (hN : w.heap.size = N) (x s c q : Nat) (h : x < 18446744073709551616) (hs : s = x % 65536) (hc : c = x / 65536 % 65536) (hq : q = x / 4294967296 % 65536) : Calls Try.prog 26 #[.int .u64 (x : Int), .slice (some ⟨N, 0, none⟩) 4 4] (w.alloc (.cells #[.int .i64 16, .int .i64 16, .int .i64 16, .int .i64 16] 3)) fun e w' => ∃ (b o gc : Nat), e = .returned (.tuple #[.slice (some ⟨b, o, none⟩) 4 gc, .bool true]) ∧ (b < w'.heap.size ∧ w'.cell? ⟨b, o, none⟩ = some (.int .u64 (s : Int)) ∧ w'.cell? ⟨b, o + 1, none⟩ = some (.int .u64 (c : Int)) ∧ w'.cell? ⟨b, o + 2, none⟩ = some (.int .u64 (q : Int))) ∧ Below w.heap.size w w' := by
  subst hN hs hc hq
  refine (Pack.split_any x h _ 4 _ (nts_four w)).mono ?_
  rintro e w' ⟨G, gc, rfl, hw, hb⟩
  have hb0 := (Below.refl w.heap.size w).alloc (Nat.le_refl _) (.cells #[.int .i64 16, .int .i64 16, .int .i64 16, .int .i64 16] 3)
  rw [split_four h] at hw ⊢
  simp only [Option.getD_some] at hw
  obtain ⟨b, o, rfl, hlt, hc0⟩ := hw.at' 0 (by simp)
  obtain ⟨b', o', e, _, hc1⟩ := hw.at' 1 (by simp)
  injection e with e
  injection e with e1 e2
  subst e1 e2
  obtain ⟨b', o', e, _, hc2⟩ := hw.at' 2 (by simp)
  injection e with e
  injection e with e1 e2
  subst e1 e2
  exact ⟨b, o, gc, rfl, ⟨hlt, hc0, hc1, hc2⟩, hb0.trans (hb.mono hb0.size)⟩

set_option maxHeartbeats 2000000 in
set_option maxRecDepth 100000 in
theorem decode_any (w : World) (x : Nat) (hx : x < 18446744073709551616) :
    Calls Try.prog 12 #[.int .u64 (x : Int)] w fun r w' => r = .returned (.tuple #[gv (dec x), .int .i64 (ev (dec x))]) ∧ Below w.heap.size w w' := by
  obtain ⟨s, hs⟩ : ∃ s, s = x % 65536 := ⟨_, rfl⟩
  obtain ⟨c, hc⟩ : ∃ c, c = x / 65536 % 65536 := ⟨_, rfl⟩
  obtain ⟨q, hq⟩ : ∃ q, q = x / 4294967296 % 65536 := ⟨_, rfl⟩
  have hs1 : s < 65536 := by omega
  have hc1 : c < 65536 := by omega
  have hq1 : q < 65536 := by omega
  have HB := Lib.hid ((Below.refl w.heap.size w).alloc (Nat.le_refl _) (.cells #[.int .i64 0, .int .i64 0, .int .i64 0] 23))
  have HX := Lib.hid (owned w 0 0 0 23)
  have HS := Lib.hid (split_any (w.alloc (.cells #[.int .i64 0, .int .i64 0, .int .i64 0] 23)) (w.heap.size + 1) (World.size_alloc _ _) x s c q hx hs hc hq)
  have HD := Lib.hid (show dec x = if may s c (nx q) = true ∧ x = wd s c q then some (s, c, q) else none by
    unfold dec
    simp only [← hs, ← hc, ← hq])
  have HTN := Lib.hid (fun w => toNext_any w q)
  obtain ⟨n, hn⟩ : ∃ n, n = nx q := ⟨_, rfl⟩
  rw [← hn] at HTN
  have HN := Lib.hid hn
  have hws : IntKind.wrap .i64 (s : Int) = (s : Int) := by rw [IntKind.wrap_i64]; omega
  have hwc : IntKind.wrap .i64 (c : Int) = (c : Int) := by rw [IntKind.wrap_i64]; omega
  have hwq : IntKind.wrap .i64 (q : Int) = (q : Int) := by rw [IntKind.wrap_i64]; omega
  clear hs hc hq hn
  go_enter Try.func12, Try.ntmps12
  go_wp2_with fail
  refine HS.out.mono ?_
  rintro e w1 ⟨b1, o1, gc, rfl, ⟨hb1, hq0, hq1, hq2⟩, hbw⟩
  have HX1 := Lib.hid (HX.out.keep hbw)
  have HB1 := Lib.hid (HB.out.trans (hbw.mono HB.out.size))
  have hz1 : w.heap.size < w1.heap.size := HX1.out.box.lt
  clear hbw HS HX HB
  go_wp2
  go_region_held3 (fun W' => W'.cell? ⟨b1, o1, none⟩ = some (.int .u64 (s : Int)) ∧ W'.cell? ⟨b1, o1 + 1, none⟩ = some (.int .u64 (c : Int)) ∧ W'.cell? ⟨b1, o1 + 2, none⟩ = some (.int .u64 (q : Int))) (go_keep)
    (first
    | (go_at_call 27
       with_reducible refine (HTN.out _).mono ?_
       rintro e w' ⟨rfl, rfl⟩))
  all_goals
    (have hba := (Below.refl w1.heap.size w1).alloc (Nat.le_refl _) (.cells #[.int .i64 (s : Int), .int .i64 (c : Int), .int .i64 n] 23)
     have HX2 := Lib.hid (HX1.out.keep hba).drew
     have HG2 := Lib.hid (boxed w1 s c n 23).drew
     have HB2 := Lib.hid (HB1.out.trans (hba.mono HB1.out.size)).drew
     clear hws hwc hwq hba HX1 HB1 hb1 hq0 hq1 hq2
     go_wp2_with fail
     generalize (w1.alloc (.cells #[.int .i64 (s : Int), .int .i64 (c : Int), .int .i64 n] 23)).drew = w2 at *
     generalize w1.heap.size = k1 at *
     cases hmay : may s c (nx q) with
     | false =>
       have HNO := Lib.hid (show dec x = none by rw [HD.out, if_neg (fun h => by rw [hmay] at h; simp at h)])
       refine (encode_no _ s c n (by rw [HN.out]; exact hmay)).mono ?_
       rintro e w3 ⟨rfl, hb3⟩
       have HX3 := Lib.hid (HX2.out.keep hb3)
       have HB3 := Lib.hid (HB2.out.trans (hb3.mono HB2.out.size))
       have hc0 := HX3.out.box.c0
       have hc1 := HX3.out.box.c1
       have hc2 := HX3.out.box.c2
       have hf0 := HX3.out.f 0
       have hf1 := HX3.out.f 1
       have hf2 := HX3.out.f 2
       clear hb3 hmay HX2 HB2 HD HN HG2
       go_wp2
       rw [HNO.out]
       refine bodyPost_ret (v := .tuple #[gv none, .int .i64 (ev none)]) ?_ rfl ⟨rfl, ?_⟩
       · simp [results, Try.results12, go_sem, gv, ev, hc0, hc1, hc2]
       · exact ((HB3.out.setCell (Nat.le_refl _) _).setCell (Nat.le_refl _) _).setCell (Nat.le_refl _) _
     | true =>
       refine (encode_yes _ s c q n HN.out hmay).mono ?_
       rintro e w3 ⟨rfl, hb3⟩
       have HX3 := Lib.hid (HX2.out.keep hb3)
       have HG3 := Lib.hid (HG2.out.keep hb3)
       have HB3 := Lib.hid (HB2.out.trans (hb3.mono HB2.out.size))
       have hc0 := HX3.out.box.c0
       have hc1 := HX3.out.box.c1
       have hc2 := HX3.out.box.c2
       have hf0 := HX3.out.f 0
       have hf1 := HX3.out.f 1
       have hf2 := HX3.out.f 2
       have hg0 := HG3.out.c0
       have hg1 := HG3.out.c1
       have hg2 := HG3.out.c2
       have HM := Lib.hid hmay
       clear hb3 hmay HX2 HB2 HG2
       by_cases hls : x = wd s c q
       · have HNO := Lib.hid (show dec x = some (s, c, q) by rw [HD.out, if_pos ⟨HM.out, hls⟩])
         have hbe : (((x : Nat) : Int) != ((wd s c q : Nat) : Int)) = false := by rw [← hls]; simp
         clear hls HD HM
         go_wp2
         rw [HNO.out]
         refine bodyPost_ret (v := .tuple #[gv (some (s, c, q)), .int .i64 (ev (some (s, c, q)))]) ?_ rfl ⟨rfl, ?_⟩
         · simp [results, Try.results12, go_sem, gv, ev, hc0, hc1, hc2, HN.out]
         · exact ((HB3.out.setCell (Nat.le_refl _) _).setCell (Nat.le_refl _) _).setCell (Nat.le_refl _) _
       · have HNO := Lib.hid (show dec x = none by rw [HD.out, if_neg (fun h => hls h.2)])
         have hbe : (((x : Nat) : Int) != ((wd s c q : Nat) : Int)) = true := by simp; omega
         clear hls HD HM
         go_wp2
         rw [HNO.out]
         refine bodyPost_ret (v := .tuple #[gv none, .int .i64 (ev none)]) ?_ rfl ⟨rfl, ?_⟩
         · simp [results, Try.results12, go_sem, gv, ev, hc0, hc1, hc2]
         · exact ((HB3.out.setCell (Nat.le_refl _) _).setCell (Nat.le_refl _) _).setCell (Nat.le_refl _) _)
end Slo
end Go.Proofs.Ytjhmmllifecfkaa
