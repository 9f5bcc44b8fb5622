/- Texts laid together: VolRefRead, VolRead, VolReadsLaw. -/
import Derived.Test.YtcojgpjappjobaaGreatDoorVs9
import Derived.Test.YtcojgpjappjobaaGreatDoorVi1
import Derived.Test.YtcojgpjappjobaaGreatDoorVs6
import Derived.Test.YtcojgpjappjobaaGreatDoorVs7
import Derived.Test.YtcojgpjappjobaaGreatDoorVs8
import Derived.Test.YtcojgpjappjobaaGreatDoorVs2
import Derived.Test.YtcojgpjappjobaaGreatDoorVs4
import Derived.Test.YtcojgpjappjobaaGreatDoorVs3
import Derived.Test.YtcojgpjappjobaaGreatDoorVb1
import Derived.Deep.DeepCutAuto
import Derived.Deep.CutBlock
import Derived.Test.YtcojgpjappjobaaGreatDoorVs1
import Derived.Test.YtcojgpjappjobaaGreatDoorVs5
/- The document's inode, slot, map, record and block of a volume's words. -/
namespace Go.Proofs.YtcojgpjappjobaaGreatDoor
open Go.RowKit Go.MapKept
namespace Vol
/-- a part of a row of words -/
theorem wds_part {w : World} {g f k : Nat} {W : List Nat} (h : Pack.Wds w (some ⟨g, 0, none⟩) W) (hf : f + k ≤ W.length) : Pack.Wds w (some ⟨g, f, none⟩) (rdw W f k) := by
  refine ⟨rdw_u64 h.u64 f k, by rw [rdw_len]; have := h.len; omega, fun j hj => ?_⟩
  rw [rdw_len] at hj
  obtain ⟨b, o, e, hb, hc⟩ := h.at' (f + j) (by omega)
  injection e with e
  injection e with e1 e2
  subst e1 e2
  refine ⟨g, f, rfl, hb, ?_⟩
  rw [rdw_get, List.getElem?_eq_getElem (by omega), Option.getD_some]
  rw [Nat.zero_add] at hc
  exact hc

section
variable {w : World} {n m s sl bm bk E : Nat} {W : List Nat}
set_option maxHeartbeats 2000000 in
set_option maxRecDepth 100000 in
theorem rinode_no (w : World) (v : Value) (i : Int) (hi : i < 0 ∨ (m : Int) ≤ i) :
    Calls Tryz.prog 16 #[.agg (dv n m s sl bm bk E v), .int .i64 i] w fun r w' => r = .returned (.tuple #[.agg #[.int .i64 0, .int .i64 (-1), .int .i64 0], .bool false]) ∧ Below w.heap.size w w' := by
  have hb0 := (Below.refl w.heap.size w).alloc (Nat.le_refl _) (.cells (dv n m s sl bm bk E v) 30)
  have HX := Lib.hid (hb_new (w.alloc (.cells (dv n m s sl bm bk E v) 30)) #[.int .i64 0, .int .i64 (-1), .int .i64 0] 47)
  rw [World.size_alloc] at HX
  have HB := Lib.hid (hb0.alloc hb0.size (.cells #[.int .i64 0, .int .i64 (-1), .int .i64 0] 47))
  clear hb0
  unfold dv at HX HB ⊢
  have c0 := HX.out.cell 0
  have c1 := HX.out.cell 1
  have c2 := HX.out.cell 2
  go_enter Tryz.func16, Tryz.ntmps16
  rcases hi with hi | hi
  · go_wp2_with fail
    refine bodyPost_ret (v := .tuple #[.agg #[.int .i64 0, .int .i64 (-1), .int .i64 0], .bool false]) ?_ rfl ⟨rfl, HB.out⟩
    simp [results, Tryz.results16, go_sem, c0, c1, c2]
  · have hd2 : decide ((m : Int) ≤ i) = true := decide_eq_true hi
    go_wp2_with fail
    all_goals
      refine bodyPost_ret (v := .tuple #[.agg #[.int .i64 0, .int .i64 (-1), .int .i64 0], .bool false]) ?_ rfl ⟨rfl, HB.out⟩
      simp [results, Tryz.results16, go_sem, c0, c1, c2]

set_option maxHeartbeats 2000000 in
set_option maxRecDepth 100000 in
theorem rinode_yes (w : World) (g gc : Nat) (hW : Pack.Wds w (some ⟨g, 0, none⟩) W) (hWE : W.length = E) (hc : E ≤ gc) (i : Nat) (hi : i < m) (hin : 16 + 8 * i + 8 ≤ E) (hE : E ≤ 1000) :
    Calls Tryz.prog 16 #[.agg (dv n m s sl bm bk E (.slice (some ⟨g, 0, none⟩) E gc)), .int .i64 (i : Int)] w fun r w' => r = .returned (Ino.rv (Ino.dec (rdw W (16 + 8 * i) 8))) ∧ Below w.heap.size w w' := by
  have HX := Lib.hid (hb_new w (dv n m s sl bm bk E (.slice (some ⟨g, 0, none⟩) E gc)) 30)
  have HB0 := Lib.hid ((Below.refl w.heap.size w).alloc (Nat.le_refl _) (.cells (dv n m s sl bm bk E (.slice (some ⟨g, 0, none⟩) E gc)) 30))
  have HW := Lib.hid hW
  obtain ⟨F, hF⟩ : ∃ F, F = 16 + 8 * i := ⟨_, rfl⟩
  obtain ⟨G, hG⟩ : ∃ G, G = F + 8 := ⟨_, rfl⟩
  have HD := Lib.hid (fun (w' : World) (cp : Nat) (hb : Below w.heap.size w w') => show Calls Tryz.prog 64 #[.slice (some ⟨g, F, none⟩) 8 cp] w' _ from by
    have hd := Ino.refDecode_any (w := w') (some ⟨g, F, none⟩) cp (rdw W F 8) (wds_part (hW.keep hb) (by omega))
    rw [rdw_len] at hd
    exact hd)
  rw [← hF]
  obtain ⟨g0, g1, g2, hg⟩ := gv_ino (Ino.dec (rdw W F 8))
  unfold Ino.rv at HD ⊢
  rw [hg] at HD ⊢
  generalize (Ino.dec (rdw W F 8)).isSome = is at *
  clear hg
  have hsum : (16 : Int) + 8 * (i : Int) = (F : Int) := by omega
  have hsum2 : (F : Int) + 8 = (G : Int) := by omega
  have hi8 : i ≤ 200 := by omega
  have hFb : F ≤ 1000 ∧ G ≤ 1000 := by omega
  have hGc : G ≤ gc := by omega
  have hFG : F ≤ G := by omega
  have hd1 : decide ((i : Int) < 0) = false := decide_eq_false (by omega)
  have hd2 : decide ((m : Int) ≤ (i : Int)) = false := decide_eq_false (by omega)
  have hGF : G - F = 8 := by omega
  have hd3 : decide (m ≤ i) = false := decide_eq_false (by omega)
  clear hF hG hi
  unfold dv at HX HB0 ⊢
  go_enter Tryz.func16, Tryz.ntmps16
  obtain ⟨w0, hw0⟩ : ∃ w0, w0 = w.alloc (.cells #[.int .i64 (n : Int), .int .i64 (m : Int), .int .i64 (s : Int), .int .i64 16, .int .i64 (sl : Int), .int .i64 (bm : Int), .int .i64 (bk : Int), .int .i64 (E : Int), .slice (some ⟨g, 0, none⟩) E gc] 30) := ⟨_, rfl⟩
  rw [← hw0] at HX HB0
  have hz0 : w0.heap.size = w.heap.size + 1 := by rw [hw0, World.size_alloc]
  have hb1 := HB0.out.alloc HB0.out.size (.cells #[.int .i64 0, .int .i64 0, .int .i64 0] 47)
  have hx1 := hb_new w0 #[.int .i64 0, .int .i64 0, .int .i64 0] 47
  rw [hz0] at hx1
  have HB1 := Lib.hid hb1
  have HX1 := Lib.hid hx1
  clear hb1 hx1
  go_wp2_with fail
  rw [← hw0]
  clear hw0
  generalize w0.alloc (.cells #[.int .i64 0, .int .i64 0, .int .i64 0] 47) = w1 at *
  refine (HD.out _ _ HB1.out).mono ?_
  rintro r w2 ⟨rfl, hb⟩
  have HB2 := Lib.hid (HB1.out.trans (hb.mono HB1.out.size))
  have HX2 := Lib.hid (HX1.out.keep hb)
  clear hb
  have c0 := HX2.out.cell 0
  have c1 := HX2.out.cell 1
  have c2 := HX2.out.cell 2
  have f0 := HX2.out.frozen 0
  have f1 := HX2.out.frozen 1
  have f2 := HX2.out.frozen 2
  have hl2 := HX2.out.lt
  go_wp2
  refine bodyPost_ret (v := .tuple #[.agg #[.int .i64 g0, .int .i64 g1, .int .i64 g2], .bool is]) ?_ rfl ⟨rfl, ?_⟩
  · simp [results, Tryz.results16, go_sem, c0, c1, c2]
  · exact ((HB2.out.setCell (Nat.le_succ _) _).setCell (Nat.le_succ _) _).setCell (Nat.le_succ _) _
set_option maxHeartbeats 2000000 in
set_option maxRecDepth 100000 in
theorem rslot_no (w : World) (v : Value) (i : Int) (hi : i < 0 ∨ (n : Int) ≤ i) :
    Calls Tryz.prog 18 #[.agg (dv n m s sl bm bk E v), .int .i64 i] w fun r w' => r = .returned (.tuple #[.agg #[.int .i64 0, .int .i64 0, .int .i64 0], .bool false]) ∧ Below w.heap.size w w' := by
  have hb0 := (Below.refl w.heap.size w).alloc (Nat.le_refl _) (.cells (dv n m s sl bm bk E v) 30)
  have HX := Lib.hid (hb_new (w.alloc (.cells (dv n m s sl bm bk E v) 30)) #[.int .i64 0, .int .i64 0, .int .i64 0] 54)
  rw [World.size_alloc] at HX
  have HB := Lib.hid (hb0.alloc hb0.size (.cells #[.int .i64 0, .int .i64 0, .int .i64 0] 54))
  clear hb0
  unfold dv at HX HB ⊢
  have c0 := HX.out.cell 0
  have c1 := HX.out.cell 1
  have c2 := HX.out.cell 2
  go_enter Tryz.func18, Tryz.ntmps18
  rcases hi with hi | hi
  · go_wp2_with fail
    refine bodyPost_ret (v := .tuple #[.agg #[.int .i64 0, .int .i64 0, .int .i64 0], .bool false]) ?_ rfl ⟨rfl, HB.out⟩
    simp [results, Tryz.results18, go_sem, c0, c1, c2]
  · have hd2 : decide ((n : Int) ≤ i) = true := decide_eq_true hi
    go_wp2_with fail
    all_goals
      refine bodyPost_ret (v := .tuple #[.agg #[.int .i64 0, .int .i64 0, .int .i64 0], .bool false]) ?_ rfl ⟨rfl, HB.out⟩
      simp [results, Tryz.results18, go_sem, c0, c1, c2]

set_option maxHeartbeats 2000000 in
set_option maxRecDepth 100000 in
theorem rslot_yes (w : World) (g gc : Nat) (hW : Pack.Wds w (some ⟨g, 0, none⟩) W) (hWE : W.length = E) (i F : Nat) (hi : i < n) (hF : F = sl + i) (hin : F < E) (hE : E ≤ 1000) :
    Calls Tryz.prog 18 #[.agg (dv n m s sl bm bk E (.slice (some ⟨g, 0, none⟩) E gc)), .int .i64 (i : Int)] w fun r w' => r = .returned (Slo.rv (Slo.dec (W[F]?.getD 0))) ∧ Below w.heap.size w w' := by
  have hb0 := (Below.refl w.heap.size w).alloc (Nat.le_refl _) (.cells (dv n m s sl bm bk E (.slice (some ⟨g, 0, none⟩) E gc)) 30)
  have HX := Lib.hid (hb_new w (dv n m s sl bm bk E (.slice (some ⟨g, 0, none⟩) E gc)) 30)
  have HB0 := Lib.hid hb0
  have HW := Lib.hid hW
  clear hb0
  have hcell := fun (w' : World) (hb : Below w.heap.size w w') => (HW.out.keep hb).at' F (by omega)
  have hx : W[F]?.getD 0 < 18446744073709551616 := at_lt hW.u64 F
  rw [List.getElem?_eq_getElem (by omega), Option.getD_some] at hx ⊢
  generalize W[F] = x at *
  have HD := Lib.hid (fun w => Slo.refDecode_any w x hx)
  obtain ⟨g0, g1, g2, hg⟩ := gv_three (Slo.dec x)
  unfold Slo.rv at HD ⊢
  rw [hg] at HD ⊢
  generalize (Slo.dec x).isSome = is at *
  have hsum : (sl : Int) + (i : Int) = (F : Int) := by omega
  have hd1 : decide ((i : Int) < 0) = false := decide_eq_false (by omega)
  have hd2 : decide ((n : Int) ≤ (i : Int)) = false := decide_eq_false (by omega)
  have hd3 : decide (n ≤ i) = false := decide_eq_false (by omega)
  have hF0 : (0 : Int) ≤ (F : Int) := by omega
  have hF1 : (F : Int) < (E : Int) := by omega
  have hFE : sl ≤ 1000 ∧ i ≤ 1000 := by omega
  clear hg hF hi hW
  unfold dv at HX HB0 ⊢
  go_enter Tryz.func18, Tryz.ntmps18
  obtain ⟨w0, hw0⟩ : ∃ w0, w0 = w.alloc (.cells #[.int .i64 (n : Int), .int .i64 (m : Int), .int .i64 (s : Int), .int .i64 16, .int .i64 (sl : Int), .int .i64 (bm : Int), .int .i64 (bk : Int), .int .i64 (E : Int), .slice (some ⟨g, 0, none⟩) E gc] 30) := ⟨_, rfl⟩
  rw [← hw0] at HX HB0
  have hz0 : w0.heap.size = w.heap.size + 1 := by rw [hw0, World.size_alloc]
  have hb1 := HB0.out.alloc HB0.out.size (.cells #[.int .i64 0, .int .i64 0, .int .i64 0] 54)
  have hx1 := hb_new w0 #[.int .i64 0, .int .i64 0, .int .i64 0] 54
  rw [hz0] at hx1
  obtain ⟨_, _, he, _, hcl⟩ := hcell _ hb1
  injection he with he
  injection he with he1 he2
  subst he1 he2
  rw [Nat.zero_add] at hcl
  have HB1 := Lib.hid hb1
  have HX1 := Lib.hid hx1
  clear hb1 hx1 hcell
  rw [hw0] at hcl
  go_wp2_with fail
  rw [← hw0] at hcl
  rw [← hw0]
  clear hw0
  generalize w0.alloc (.cells #[.int .i64 0, .int .i64 0, .int .i64 0] 54) = w1 at *
  refine (HD.out _).mono ?_
  rintro r w2 ⟨rfl, hb⟩
  have HB2 := Lib.hid (HB1.out.trans (hb.mono HB1.out.size))
  have HX2 := Lib.hid (HX1.out.keep hb)
  clear hb hcl
  have c0 := HX2.out.cell 0
  have c1 := HX2.out.cell 1
  have c2 := HX2.out.cell 2
  have f0 := HX2.out.frozen 0
  have f1 := HX2.out.frozen 1
  have f2 := HX2.out.frozen 2
  have hl2 := HX2.out.lt
  go_wp2
  refine bodyPost_ret (v := .tuple #[.agg #[.int .i64 g0, .int .i64 g1, .int .i64 g2], .bool is]) ?_ rfl ⟨rfl, ?_⟩
  · simp [results, Tryz.results18, go_sem, c0, c1, c2]
  · exact ((HB2.out.setCell (Nat.le_succ _) _).setCell (Nat.le_succ _) _).setCell (Nat.le_succ _) _

theorem gv_rrec (q : Option (Nat × Nat × Nat × Nat)) : ∃ x y z t : Int, Rec.gv q = .agg #[.int .i64 x, .int .i64 y, .int .i64 z, .int .i64 t] := by
  cases q with
  | none => exact ⟨0, 0, 0, 0, rfl⟩
  | some t => exact ⟨_, _, _, _, rfl⟩
set_option maxHeartbeats 2000000 in
set_option maxRecDepth 100000 in
theorem rrecord_any (w : World) (g gc : Nat) (hW : Pack.Wds w (some ⟨g, 0, none⟩) W) (hWE : W.length = E) (hc : E ≤ gc) (hin : 16 ≤ E) :
    Calls Tryz.prog 26 #[.agg (dv n m s sl bm bk E (.slice (some ⟨g, 0, none⟩) E gc))] w fun r w' => r = .returned (.tuple #[Rec.gv (Rec.dec (rdw W 8 8)), .int .i64 (Rec.st (rdw W 8 8))]) ∧ Below w.heap.size w w' := by
  have hb0 := (Below.refl w.heap.size w).alloc (Nat.le_refl _) (.cells (dv n m s sl bm bk E (.slice (some ⟨g, 0, none⟩) E gc)) 30)
  have HX := Lib.hid (hb_new w (dv n m s sl bm bk E (.slice (some ⟨g, 0, none⟩) E gc)) 30)
  have HB0 := Lib.hid hb0
  have HW := Lib.hid hW
  clear hb0
  have HD := Lib.hid (fun (w' : World) (cp : Nat) (hb : Below w.heap.size w w') => show Calls Tryz.prog 78 #[.slice (some ⟨g, 8, none⟩) 8 cp] w' _ from by
    have hd := Rec.refDecode_any (w := w') (some ⟨g, 8, none⟩) cp (rdw W 8 8) (wds_part (hW.keep hb) (by omega))
    rw [rdw_len] at hd
    exact hd)
  obtain ⟨g0, g1, g2, g3, hg⟩ := gv_rrec (Rec.dec (rdw W 8 8))
  rw [hg] at HD ⊢
  generalize Rec.st (rdw W 8 8) = e at *
  have hc16 : 16 ≤ gc := by omega
  clear hg hW hWE hc hin
  unfold dv at HX HB0 ⊢
  go_enter Tryz.func26, Tryz.ntmps26
  obtain ⟨w0, hw0⟩ : ∃ w0, w0 = w.alloc (.cells #[.int .i64 (n : Int), .int .i64 (m : Int), .int .i64 (s : Int), .int .i64 16, .int .i64 (sl : Int), .int .i64 (bm : Int), .int .i64 (bk : Int), .int .i64 (E : Int), .slice (some ⟨g, 0, none⟩) E gc] 30) := ⟨_, rfl⟩
  rw [← hw0] at HX HB0
  have hz0 : w0.heap.size = w.heap.size + 1 := by rw [hw0, World.size_alloc]
  have hb1 := HB0.out.alloc HB0.out.size (.cells #[.int .i64 0, .int .i64 0, .int .i64 0, .int .i64 0] 74)
  have hx1 := hb_new w0 #[.int .i64 0, .int .i64 0, .int .i64 0, .int .i64 0] 74
  rw [hz0] at hx1
  have HB1 := Lib.hid hb1
  have HX1 := Lib.hid hx1
  clear hb1 hx1
  go_wp2_with fail
  rw [← hw0]
  clear hw0
  generalize w0.alloc (.cells #[.int .i64 0, .int .i64 0, .int .i64 0, .int .i64 0] 74) = w1 at *
  refine (HD.out _ _ HB1.out).mono ?_
  rintro r w2 ⟨rfl, hb⟩
  have HB2 := Lib.hid (HB1.out.trans (hb.mono HB1.out.size))
  have HX2 := Lib.hid (HX1.out.keep hb)
  clear hb
  have c0 := HX2.out.cell 0
  have c1 := HX2.out.cell 1
  have c2 := HX2.out.cell 2
  have c3 := HX2.out.cell 3
  have f0 := HX2.out.frozen 0
  have f1 := HX2.out.frozen 1
  have f2 := HX2.out.frozen 2
  have f3 := HX2.out.frozen 3
  have hl2 := HX2.out.lt
  go_wp2
  refine bodyPost_ret (v := .tuple #[.agg #[.int .i64 g0, .int .i64 g1, .int .i64 g2, .int .i64 g3], .int .i64 e]) ?_ rfl ⟨rfl, ?_⟩
  · simp [results, Tryz.results26, go_sem, c0, c1, c2, c3]
  · exact (((HB2.out.setCell (Nat.le_succ _) _).setCell (Nat.le_succ _) _).setCell (Nat.le_succ _) _).setCell (Nat.le_succ _) _

/-- what the document's map of words is -/
def RfP (n : Nat) (l : List Nat) (A : Option Addr) (t : Nat) (is : Bool) (w' : World) : Prop :=
  (Bm.Good n l ∧ is = true ∧ t = n ∧ ∃ q, Bm.Bls w' q A n (Bm.fo n l)) ∨ (¬ Bm.Good n l ∧ is = false)
theorem rof_all (w : World) (q n : Nat) (A : Option Addr) (c : Nat) (l : List Nat) (h : Pack.Wds w A l) (hn : n ≤ 65534) (hl : l.length = (n + 63) / 64) (hq : q < w.heap.size) :
    Calls Tryz.prog 75 #[.int .i64 (n : Int), .slice A l.length c] w fun r w' => ∃ (B : Option Addr) (t d : Nat) (is : Bool), r = .returned (.tuple #[.slice B t d, .bool is]) ∧ RfP n l B t is w' ∧ Below w.heap.size w w' := by
  refine (Bm.refOf_any q n A c l h hn hl hq).mono ?_
  rintro e w' (⟨hg, B, d, rfl, hB, hb⟩ | ⟨hg, rfl, hb⟩)
  · exact ⟨B, n, d, true, rfl, .inl ⟨hg, rfl, rfl, q, hB⟩, hb⟩
  · exact ⟨none, 0, 0, false, rfl, .inr ⟨hg, rfl⟩, hb⟩
set_option maxHeartbeats 2000000 in
set_option maxRecDepth 100000 in
theorem rbitmap_any (w : World) (g gc : Nat) (hW : Pack.Wds w (some ⟨g, 0, none⟩) W) (hWE : W.length = E) (hc : E ≤ gc) (hE : E ≤ 1000) (hn : n ≤ 1000) (hn1 : 1 ≤ n) (hin : bm + (n + 63) / 64 ≤ E) :
    Calls Tryz.prog 24 #[.agg (dv n m s sl bm bk E (.slice (some ⟨g, 0, none⟩) E gc))] w fun r w' => ∃ (B : Option Addr) (t d : Nat) (is : Bool), r = .returned (.tuple #[.slice B t d, .bool is]) ∧ RfP n (rdw W bm ((n + 63) / 64)) B t is w' ∧ Below w.heap.size w w' := by
  have hb0 := (Below.refl w.heap.size w).alloc (Nat.le_refl _) (.cells (dv n m s sl bm bk E (.slice (some ⟨g, 0, none⟩) E gc)) 30)
  have HX := Lib.hid (hb_new w (dv n m s sl bm bk E (.slice (some ⟨g, 0, none⟩) E gc)) 30)
  have HB0 := Lib.hid hb0
  have HW := Lib.hid hW
  clear hb0
  obtain ⟨k, hk⟩ : ∃ k, k = (n + 63) / 64 := ⟨_, rfl⟩
  obtain ⟨G, hG⟩ : ∃ G, G = bm + k := ⟨_, rfl⟩
  rw [← hk]
  have HD := Lib.hid (fun (w' : World) (cp : Nat) (hb : Below w.heap.size w w') (hq : w.heap.size < w'.heap.size) => show Calls Tryz.prog 75 #[.int .i64 (n : Int), .slice (some ⟨g, bm, none⟩) k cp] w' _ from by
    have hd := rof_all w' w.heap.size n (some ⟨g, bm, none⟩) cp (rdw W bm k) (wds_part (hW.keep hb) (by omega)) (by omega) (by rw [rdw_len, hk]) hq
    rw [rdw_len] at hd
    exact hd)
  obtain ⟨N3, hN3⟩ : ∃ N3, N3 = n + 63 := ⟨_, rfl⟩
  have hq0 : (n : Int) + 63 = (N3 : Int) := by omega
  have hq1 : (N3 : Int) / 64 = (k : Int) := by omega
  have hq2 : (bm : Int) + (k : Int) = (G : Int) := by omega
  have hGc : G ≤ gc := by omega
  have hbG : bm ≤ G := by omega
  have hbc : bm < gc := by omega
  have hne1 : ¬ gc = bm := by omega
  have hGb : G - bm = k := by omega
  have hw1 : IntKind.wrap .i64 (N3 : Int) = (N3 : Int) := by rw [IntKind.wrap_i64]; omega
  have hw2 : IntKind.wrap .i64 (k : Int) = (k : Int) := by rw [IntKind.wrap_i64]; omega
  have hw3 : IntKind.wrap .i64 (G : Int) = (G : Int) := by rw [IntKind.wrap_i64]; omega
  have hbb : bm ≤ 1000 ∧ G ≤ 1000 ∧ k ≤ 1000 := by omega
  clear hk hG hW hWE hc hin hN3
  unfold dv at HX HB0 ⊢
  go_enter Tryz.func24, Tryz.ntmps24
  obtain ⟨w0, hw0⟩ : ∃ w0, w0 = w.alloc (.cells #[.int .i64 (n : Int), .int .i64 (m : Int), .int .i64 (s : Int), .int .i64 16, .int .i64 (sl : Int), .int .i64 (bm : Int), .int .i64 (bk : Int), .int .i64 (E : Int), .slice (some ⟨g, 0, none⟩) E gc] 30) := ⟨_, rfl⟩
  rw [← hw0] at HX HB0
  have hz0 : w0.heap.size = w.heap.size + 1 := by rw [hw0, World.size_alloc]
  go_wp2_with fail
  rw [← hw0]
  clear hw0
  have HQD := Lib.hid (show w.heap.size < w0.drew.heap.size by show w.heap.size < w0.heap.size; omega)
  have HBD := Lib.hid (HB0.out.trans ((below_d w0).mono HB0.out.size))
  have c0 := HX.out.cell 0
  have c5 := HX.out.cell 5
  have c8 := HX.out.cell 8
  have hl0 := HX.out.lt
  go_region_held3 (fun W' => W'.cell? ⟨w.heap.size, 0, none⟩ = some (.int .i64 (n : Int)) ∧ W'.cell? ⟨w.heap.size, 5, none⟩ = some (.int .i64 (bm : Int)) ∧ W'.cell? ⟨w.heap.size, 8, none⟩ = some (.slice (some ⟨g, 0, none⟩) E gc)) (go_keep)
    (first
    | (go_at_call 75
       with_reducible refine (HD.out w0.drew _ HBD.out HQD.out).mono ?_
       rintro r w2 ⟨B, t, d, is, rfl, hp, hb⟩
       have HB2 := Lib.hid ((HB0.out.trans ((below_d w0).mono HB0.out.size)).trans (hb.mono HB0.out.size))
       have HX2 := Lib.hid ((show Hb w0.drew w.heap.size _ _ from HX.out).keep hb)
       have HP := Lib.hid hp
       have d0 := HX2.out.cell 0
       have d5 := HX2.out.cell 5
       have d8 := HX2.out.cell 8
       have hl2 := HX2.out.lt
       clear hb hp))
  go_wp2
  go_ret2
  exact ⟨_, _, _, _, rfl, HP.out, HB2.out⟩

set_option maxHeartbeats 2000000 in
set_option maxRecDepth 100000 in
theorem rblock_any (w : World) (g gc : Nat) (hW : Pack.Wds w (some ⟨g, 0, none⟩) W) (hWE : W.length = E) (hc : E ≤ gc) (hE : E ≤ 1000) (i q : Nat) (hs : s = 8 * q) (hq1 : 1 ≤ q) (hs2 : s ≤ 128) (hin : bk + i * q + q ≤ E) :
    Calls Tryz.prog 22 #[.agg (dv n m s sl bm bk E (.slice (some ⟨g, 0, none⟩) E gc)), .int .i64 (i : Int)] w fun r w' => r = .returned (.string (Pack.str (Pack.wflat (rdw W (bk + i * q) q)))) ∧ Below w.heap.size w w' := by
  have hb0 := (Below.refl w.heap.size w).alloc (Nat.le_refl _) (.cells (dv n m s sl bm bk E (.slice (some ⟨g, 0, none⟩) E gc)) 30)
  have HX := Lib.hid (hb_new w (dv n m s sl bm bk E (.slice (some ⟨g, 0, none⟩) E gc)) 30)
  have HB0 := Lib.hid hb0
  have HW := Lib.hid hW
  clear hb0
  obtain ⟨F, hF⟩ : ∃ F, F = bk + i * q := ⟨_, rfl⟩
  rw [← hF] at hin ⊢
  have HD := Lib.hid (fun (w' : World) (cp : Nat) (hb : Below w.heap.size w w') => show Calls Tryz.prog 72 #[.slice (some ⟨g, F, none⟩) q cp] w' _ from by
    have hd := Pack.refBytes_any (w := w') (some ⟨g, F, none⟩) cp (rdw W F q) (wds_part (hW.keep hb) (by omega)) (by rw [rdw_len]; omega)
    rw [rdw_len] at hd
    exact hd)
  generalize Pack.str (Pack.wflat (rdw W F q)) = S at *
  obtain ⟨JS, hJS⟩ : ∃ JS, JS = i * s := ⟨_, rfl⟩
  have hjs : (i : Int) * (s : Int) = (JS : Int) := by rw [hJS]; exact (Int.natCast_mul i s).symm
  obtain ⟨JQ, hJQ⟩ : ∃ JQ, JQ = i * q := ⟨_, rfl⟩
  have h8 : JS = 8 * JQ := by rw [hJS, hJQ, hs, Nat.mul_left_comm]
  have hjq : (JS : Int) / 8 = (JQ : Int) := by omega
  have hsum : (bk : Int) + (JQ : Int) = (F : Int) := by omega
  obtain ⟨G, hG⟩ : ∃ G, G = F + q := ⟨_, rfl⟩
  have hsq : (s : Int) / 8 = (q : Int) := by omega
  have hq2 : (F : Int) + (q : Int) = (G : Int) := by omega
  have hGc : G ≤ gc := by omega
  have hbG : F ≤ G := by omega
  have hGb : G - F = q := by omega
  have hFc : F < gc := by omega
  have hbb : F ≤ 1000 ∧ G ≤ 1000 ∧ q ≤ 1000 ∧ JQ ≤ 1000 ∧ JS ≤ 10000 ∧ bk ≤ 1000 := by omega
  clear hF hG hJS hJQ h8 hs hW hWE hc hin
  unfold dv at HX HB0 ⊢
  go_enter Tryz.func22, Tryz.ntmps22
  obtain ⟨w0, hw0⟩ : ∃ w0, w0 = w.alloc (.cells #[.int .i64 (n : Int), .int .i64 (m : Int), .int .i64 (s : Int), .int .i64 16, .int .i64 (sl : Int), .int .i64 (bm : Int), .int .i64 (bk : Int), .int .i64 (E : Int), .slice (some ⟨g, 0, none⟩) E gc] 30) := ⟨_, rfl⟩
  rw [← hw0] at HX HB0
  have hz0 : w0.heap.size = w.heap.size + 1 := by rw [hw0, World.size_alloc]
  go_wp2_with fail
  rw [← hw0]
  clear hw0
  refine (HD.out _ _ HB0.out).mono ?_
  rintro r w2 ⟨rfl, hb⟩
  have HB2 := Lib.hid (HB0.out.trans (hb.mono HB0.out.size))
  clear hb
  go_wp2
  go_ret
  exact ⟨rfl, HB2.out⟩
end
end Vol
end Go.Proofs.YtcojgpjappjobaaGreatDoor
/- A volume's map and record, read. -/
namespace Go.Proofs.YtcojgpjappjobaaGreatDoor
open Go.RowKit Go.MapKept
namespace Vol
/-- what a map of words is: none, or one in blocks of the call's own -/
def OfP (B n : Nat) (l : List Nat) (A : Option Addr) (e : Int) (w' : World) : Prop :=
  (Bm.Good n l ∧ e = 0 ∧ ∃ p q C : Nat, A = some ⟨p, 0, none⟩ ∧ B ≤ p ∧ B ≤ q ∧ Bm.Mp w' p q l.length C n (Bm.fo n l)) ∨ (¬ Bm.Good n l ∧ e = 2 ∧ A = none)
theorem OfP.mono {B B' n : Nat} {l : List Nat} {A : Option Addr} {e : Int} {w' : World} (h : OfP B n l A e w') (hB : B' ≤ B) : OfP B' n l A e w' := by
  rcases h with ⟨h1, h2, p, q, C, h3, h4, h5, h6⟩ | h
  · exact .inl ⟨h1, h2, p, q, C, h3, Nat.le_trans hB h4, Nat.le_trans hB h5, h6⟩
  · exact .inr h
theorem OfP.keep {B n : Nat} {l : List Nat} {A : Option Addr} {e : Int} {w w' : World} (h : OfP B n l A e w) (hb : Below w.heap.size w w') : OfP B n l A e w' := by
  rcases h with ⟨h1, h2, p, q, C, h3, h4, h5, h6⟩ | h
  · exact .inl ⟨h1, h2, p, q, C, h3, h4, h5, h6.keep hb⟩
  · exact .inr h

section
variable {Q : Nat → Prop} {w : World} {vb a n m s : Nat} {W : List Nat} {st sn : Nat}
theorem of_all (w : World) (n : Nat) (g c : Nat) (l : List Nat) (h : Pack.Wds w (some ⟨g, 0, none⟩) l) (hn : n ≤ 65534) (hl : l.length = (n + 63) / 64) :
    Calls Tryz.prog 74 #[.int .i64 (n : Int), .slice (some ⟨g, 0, none⟩) l.length c] w fun r w' => ∃ (A : Option Addr) (e : Int), r = .returned (.tuple #[.pointer A, .int .i64 e]) ∧ OfP w.heap.size n l A e w' ∧ Below w.heap.size w w' := by
  by_cases hg : Bm.Good n l
  · refine (Bm.of_yes n ⟨g, 0, none⟩ c l h hn hl hg).mono ?_
    rintro e w' ⟨p, q, C, rfl, hp, hq, hM, hb⟩
    exact ⟨_, _, rfl, .inl ⟨hg, rfl, p, q, C, rfl, hp, hq, hM⟩, hb⟩
  · refine (Bm.of_bad n _ c l h hn hl hg).mono ?_
    rintro e w' ⟨rfl, rfl⟩
    exact ⟨_, _, rfl, .inr ⟨hg, rfl, rfl⟩, Below.refl _ _⟩

set_option maxHeartbeats 4000000 in
set_option maxRecDepth 100000 in
theorem vbitmap_any (h : Vo Q w vb a n m s W st sn) {bm : Nat} (hbm : Geo.bmAt n m = (bm : Int)) :
    Calls Tryz.prog 23 #[.pointer (some ⟨vb, 0, none⟩)] w fun r w' => ∃ (A : Option Addr) (e : Int), r = .returned (.tuple #[.pointer A, .int .i64 e]) ∧ OfP w.heap.size n (rdw W bm ((n + 63) / 64)) A e w' ∧ Below w.heap.size w w' := by
  obtain ⟨h1, h2, h3⟩ := h.num
  have h4 := Geo.bm_bounds h1 h2
  obtain ⟨c0, c1, c2, c3⟩ := h.cells
  have hlt := h.lt
  obtain ⟨k, hk⟩ : ∃ k, k = (n + 63) / 64 := ⟨_, rfl⟩
  have hp : ∀ w : World, Calls Tryz.prog 73 #[.agg #[.int .i64 n, .int .i64 m, .int .i64 s]] w fun r w' => r = .returned (.tuple #[.int .i64 (bm : Int), .int .i64 (k : Int)]) ∧ Below w.heap.size w w' := fun w => by
    have hp := Geo.bitmap_any w (n : Int) (m : Int) (s : Int)
    rw [Geo.iff_yes h.may, Geo.iff_yes h.may, hbm, show ((n : Int) + 63) / 64 = (k : Int) by omega] at hp
    exact hp
  have HP := Lib.hid hp
  have hk2 : k ≤ 1024 := by omega
  have HRD := Lib.hid (fun w' (hb : Below w.heap.size w w') => read_any (h.up.keep hb) bm k (by omega) (by omega))
  have hru := rdw_u64 h.up.u64 bm k
  have hrl := rdw_len W bm k
  rw [← hk]
  generalize rdw W bm k = L at *
  have HD := Lib.hid (fun (w' : World) (g : Nat) (hr : w'.rowIs g 85 k (fun i => .int .u64 ((L[i]?.getD 0 : Nat) : Int))) => show Calls Tryz.prog 74 #[.int .i64 (n : Int), .slice (some ⟨g, 0, none⟩) k k] w' _ from by
    have hd := of_all w' n g k L (row_words hr hrl (by omega) hru) (by omega) (by rw [hrl, hk])
    rw [hrl] at hd
    exact hd)
  have H := Lib.hid h
  clear h hp hk hrl hru h1 h2 h3 h4 hbm hk2
  go_enter Tryz.func23, Tryz.ntmps23
  go_wp2_with fail
  refine (HP.out _).mono ?_
  rintro r w1 ⟨rfl, hb⟩
  have HB := Lib.hid hb
  clear hb HP c0 c1 c2 c3
  obtain ⟨c0, c1, c2, c3⟩ := (H.out.keep HB.out).cells
  have hl2 := (H.out.keep HB.out).lt
  go_wp2_with fail
  go_region_held3 (fun W' => W'.cell? ⟨vb, 0, none⟩ = some (.pointer (some ⟨a, 0, none⟩)) ∧ W'.cell? ⟨vb, 1, none⟩ = some (.int .i64 (n : Int))) (go_keep)
    (first
    | (go_at_call 63
       with_reducible refine (HRD.out w1.drew (HB.out.trans ((bel_d w1).mono HB.out.size))).mono ?_
       rintro r w2 ⟨gr, rfl, _, hrow, hb⟩
       have HROW := Lib.hid hrow
       have HB2 := Lib.hid ((HB.out.trans ((bel_d w1).mono HB.out.size)).trans (hb.mono HB.out.size))
       have hd0 := (H.out.keep HB2.out).cells.1
       have hd1 := (H.out.keep HB2.out).cells.2.1
       have hl3 := (H.out.keep HB2.out).lt
       clear hb hrow)
    | (go_at_call 74
       with_reducible refine (HD.out _ _ HROW.out).mono ?_
       rintro r w3 ⟨A, e, rfl, hof, hb⟩
       have HB3 := Lib.hid (HB2.out.trans (hb.mono HB2.out.size))
       have HOF := Lib.hid (hof.mono HB2.out.size)
       have he0 := (H.out.keep HB3.out).cells.1
       have he1 := (H.out.keep HB3.out).cells.2.1
       have hl4 := (H.out.keep HB3.out).lt
       clear hb hof))
  go_wp2
  go_ret2
  exact ⟨_, _, rfl, HOF.out, HB3.out⟩

theorem gv_rec (q : Option (Nat × Nat × Nat × Nat)) : ∃ x y z t : Int, Rec.gv q = .agg #[.int .i64 x, .int .i64 y, .int .i64 z, .int .i64 t] := by
  cases q with
  | none => exact ⟨0, 0, 0, 0, rfl⟩
  | some t => exact ⟨_, _, _, _, rfl⟩

set_option maxHeartbeats 4000000 in
set_option maxRecDepth 100000 in
theorem vrecord_any (h : Vo Q w vb a n m s W st sn) :
    Calls Tryz.prog 25 #[.pointer (some ⟨vb, 0, none⟩)] w fun r w' => r = .returned (.tuple #[Rec.gv (Rec.dec (rdw W 8 8)), .int .i64 (Rec.st (rdw W 8 8))]) ∧ Below w.heap.size w w' := by
  obtain ⟨c0, c1, c2, c3⟩ := h.cells
  have hlt := h.lt
  have hp : ∀ w : World, Calls Tryz.prog 77 #[.agg #[.int .i64 n, .int .i64 m, .int .i64 s]] w fun r w' => r = .returned (.int .i64 8) ∧ Below w.heap.size w w' := fun w => by
    have hp := Geo.record_any w (n : Int) (m : Int) (s : Int)
    rw [Geo.plc_yes h.may (by omega) (by omega)] at hp
    exact hp
  have HP := Lib.hid hp
  have HX := Lib.hid (hb_new w #[.int .i64 0, .int .i64 0, .int .i64 0, .int .i64 0] 70)
  have HB0 := Lib.hid ((Below.refl w.heap.size w).alloc (Nat.le_refl _) (.cells #[.int .i64 0, .int .i64 0, .int .i64 0, .int .i64 0] 70))
  have HRD := Lib.hid (fun w' (hb : Below w.heap.size w w') => show Calls Tryz.prog 63 #[.agg #[.pointer (some ⟨a, 0, none⟩)], .int .i64 8, .int .i64 8] w' _ from read_any (h.up.keep hb) 8 8 (by omega) (by omega))
  have hru := rdw_u64 h.up.u64 8 8
  have hrl := rdw_len W 8 8
  generalize rdw W 8 8 = L at *
  have HD := Lib.hid (fun (w' : World) (g : Nat) (hr : w'.rowIs g 85 8 (fun i => .int .u64 ((L[i]?.getD 0 : Nat) : Int))) => show Calls Tryz.prog 76 #[.slice (some ⟨g, 0, none⟩) 8 8] w' _ from by
    have hd := Rec.decode_any (some ⟨g, 0, none⟩) 8 L (row_words hr hrl (by omega) hru)
    rw [hrl] at hd
    exact hd)
  obtain ⟨g0, g1, g2, g3, hg⟩ := gv_rec (Rec.dec L)
  rw [hg] at HD ⊢
  generalize Rec.st L = e at *
  have H := Lib.hid h
  clear h hg hru hrl hp
  go_enter Tryz.func25, Tryz.ntmps25
  obtain ⟨w0, hw0⟩ : ∃ w0, w0 = w.alloc (.cells #[.int .i64 0, .int .i64 0, .int .i64 0, .int .i64 0] 70) := ⟨_, rfl⟩
  rw [← hw0] at HX HB0
  have hz0 : w0.heap.size = w.heap.size + 1 := by rw [hw0, World.size_alloc]
  go_wp2_with fail
  rw [← hw0]
  clear hw0 c0 c1 c2 c3
  obtain ⟨c0, c1, c2, c3⟩ := (H.out.keep HB0.out).cells
  have hl2 := (H.out.keep HB0.out).lt
  have hx0 := HX.out.cell 0
  go_region_held3 (fun W' => W'.cell? ⟨vb, 0, none⟩ = some (.pointer (some ⟨a, 0, none⟩)) ∧ W'.cell? ⟨vb, 1, none⟩ = some (.int .i64 (n : Int)) ∧ W'.cell? ⟨vb, 2, none⟩ = some (.int .i64 (m : Int)) ∧ W'.cell? ⟨vb, 3, none⟩ = some (.int .i64 (s : Int))) (go_keep)
    (first
    | (go_at_call 77
       with_reducible refine (HP.out w0.drew).mono ?_
       rintro r w1 ⟨rfl, hb⟩
       have HB1 := Lib.hid ((HB0.out.trans ((bel_d w0).mono HB0.out.size)).trans (hb.mono HB0.out.size))
       have HX1 := Lib.hid ((show Hb w0.drew w.heap.size _ _ from HX.out).keep hb)
       obtain ⟨cc0, cc1, cc2, cc3⟩ := (H.out.keep HB1.out).cells
       have hl3 := (H.out.keep HB1.out).lt
       clear hb)
    | (go_at_call 63
       with_reducible refine (HRD.out w1 HB1.out).mono ?_
       rintro r w2 ⟨gr, rfl, _, hrow, hb⟩
       have HROW := Lib.hid hrow
       have HB2 := Lib.hid (HB1.out.trans (hb.mono HB1.out.size))
       have HX2 := Lib.hid (HX1.out.keep hb)
       obtain ⟨cd0, cd1, cd2, cd3⟩ := (H.out.keep HB2.out).cells
       have hl4 := (H.out.keep HB2.out).lt
       clear hb hrow)
    | (go_at_call 76
       with_reducible refine (HD.out _ _ HROW.out).mono ?_
       rintro r w3 ⟨rfl, hb⟩
       have HB3 := Lib.hid (HB2.out.trans (hb.mono HB2.out.size))
       have HX3 := Lib.hid (HX2.out.keep hb)
       obtain ⟨ce0, ce1, ce2, ce3⟩ := (H.out.keep HB3.out).cells
       have hl5 := (H.out.keep HB3.out).lt
       have hc0 := HX3.out.cell 0
       have hc1 := HX3.out.cell 1
       have hc2 := HX3.out.cell 2
       have hc3 := HX3.out.cell 3
       have hf0 := HX3.out.frozen 0
       have hf1 := HX3.out.frozen 1
       have hf2 := HX3.out.frozen 2
       have hf3 := HX3.out.frozen 3
       have hl6 := HX3.out.lt
       have HB4 := Lib.hid (show Below w.heap.size w ((((w3.setCell ⟨w.heap.size, 0, none⟩ (.int .i64 g0)).setCell ⟨w.heap.size, 1, none⟩ (.int .i64 g1)).setCell ⟨w.heap.size, 2, none⟩ (.int .i64 g2)).setCell ⟨w.heap.size, 3, none⟩ (.int .i64 g3)) from (((HB3.out.setCell (Nat.le_refl _) _).setCell (Nat.le_refl _) _).setCell (Nat.le_refl _) _).setCell (Nat.le_refl _) _)
       obtain ⟨cf0, cf1, cf2, cf3⟩ := (H.out.keep HB4.out).cells
       clear hb))
  go_wp2
  refine bodyPost_ret (v := .tuple #[.agg #[.int .i64 g0, .int .i64 g1, .int .i64 g2, .int .i64 g3], .int .i64 e]) ?_ rfl ⟨rfl, ?_⟩
  · simp [results, Tryz.results25, go_sem, hc0, hc1, hc2, hc3]
  · exact (((HB3.out.setCell (Nat.le_refl _) _).setCell (Nat.le_refl _) _).setCell (Nat.le_refl _) _).setCell (Nat.le_refl _) _
end
end Vol
end Go.Proofs.YtcojgpjappjobaaGreatDoor
/- VolumeReads, walked. -/
namespace Go.Proofs.YtcojgpjappjobaaGreatDoor
open Go.RowKit Go.MapKept
namespace Vol
/-- the volume, the document's words and their boxes, as they lie all the while -/
structure Rs (w0 : World) (Q : Nat → Prop) (vb a g gc b1 b3 n m s sl bm bk E : Nat) (W : List Nat) (RC : Array Value) (w : World) : Prop where
  vo : Vo Q w vb a n m s W 0 0
  wds : Pack.Wds w (some ⟨g, 0, none⟩) W
  box : Hb w b3 #[.int .i64 (n : Int), .int .i64 (m : Int), .int .i64 (s : Int), .int .i64 16, .int .i64 (sl : Int), .int .i64 (bm : Int), .int .i64 (bk : Int), .int .i64 (E : Int), .slice (some ⟨g, 0, none⟩) E gc] 30
  raw : Hb w b1 RC 24
  below : Below w0.heap.size w0 w
theorem Rs.keep {w0 w w' : World} {Q : Nat → Prop} {vb a g gc b1 b3 n m s sl bm bk E : Nat} {W : List Nat} {RC : Array Value} (h : Rs w0 Q vb a g gc b1 b3 n m s sl bm bk E W RC w) (hb : Below w.heap.size w w') : Rs w0 Q vb a g gc b1 b3 n m s sl bm bk E W RC w' :=
  ⟨h.vo.keep hb, h.wds.keep hb, h.box.keep hb, h.raw.keep hb, h.below.trans (hb.mono h.below.size)⟩

/-- the error of what isn't there, or whose words are none's -/
def cd (i : Int) (n : Nat) : Int := if i < 0 ∨ (n : Int) ≤ i then 9 else 2
theorem code_any (w : World) (i : Int) (n : Nat) : Calls Tryz.prog 20 #[.int .i64 i, .int .i64 (n : Int)] w fun r w' => r = .returned (.int .i64 (cd i n)) ∧ w = w' := by
  unfold cd
  by_cases h1 : i < 0
  · rw [if_pos (.inl h1)]
    go_enter Tryz.func20, Tryz.ntmps20
    go_wp2
    go_ret
    exact ⟨rfl, rfl⟩
  · by_cases h2 : (n : Int) ≤ i
    · rw [if_pos (.inr h2)]
      go_enter Tryz.func20, Tryz.ntmps20
      go_wp2
      go_ret
      exact ⟨rfl, rfl⟩
    · rw [if_neg (by omega)]
      go_enter Tryz.func20, Tryz.ntmps20
      go_wp2
      go_ret
      exact ⟨rfl, rfl⟩

theorem ino_two {w0 : World} {Q : Nat → Prop} {vb a g gc b1 b3 n m s sl bm bk E : Nat} {W : List Nat} {RC : Array Value} (hP : Pl n m s sl bm bk E) (hE : W.length = E) (hc : E ≤ gc) (i : Int) :
    ∃ (g0 g1 g2 e : Int) (is : Bool), ((is = true ∧ e = 0) ∨ (is = false ∧ e = cd i m)) ∧ ∀ w', Rs w0 Q vb a g gc b1 b3 n m s sl bm bk E W RC w' →
      (Calls Tryz.prog 15 #[.pointer (some ⟨vb, 0, none⟩), .int .i64 i] w' fun r w'' => r = .returned (.tuple #[.agg #[.int .i64 g0, .int .i64 g1, .int .i64 g2], .int .i64 e]) ∧ Below w'.heap.size w' w'') ∧
      (Calls Tryz.prog 16 #[.agg #[.int .i64 (n : Int), .int .i64 (m : Int), .int .i64 (s : Int), .int .i64 16, .int .i64 (sl : Int), .int .i64 (bm : Int), .int .i64 (bk : Int), .int .i64 (E : Int), .slice (some ⟨g, 0, none⟩) E gc], .int .i64 i] w' fun r w'' => r = .returned (.tuple #[.agg #[.int .i64 g0, .int .i64 g1, .int .i64 g2], .bool is]) ∧ Below w'.heap.size w' w'') := by
  by_cases hi : i < 0 ∨ (m : Int) ≤ i
  · exact ⟨0, -1, 0, 9, false, .inr ⟨rfl, by unfold cd; rw [if_pos hi]⟩, fun w' h => ⟨inode_no h.vo i hi, rinode_no w' _ i hi⟩⟩
  · obtain ⟨j, rfl⟩ := Int.eq_ofNat_of_zero_le (show 0 ≤ i by omega)
    have hj : j < m := by omega
    obtain ⟨g0, g1, g2, hg⟩ := gv_ino (Ino.dec (rdw W (16 + 8 * j) 8))
    refine ⟨g0, g1, g2, Ino.ev (Ino.dec (rdw W (16 + 8 * j) 8)), (Ino.dec (rdw W (16 + 8 * j) 8)).isSome, ?_, fun w' h => ⟨?_, ?_⟩⟩
    · cases Ino.dec (rdw W (16 + 8 * j) 8) with
      | none => exact .inr ⟨rfl, by unfold cd; rw [if_neg hi]; rfl⟩
      | some t => exact .inl ⟨rfl, rfl⟩
    · rw [← hg]
      exact inode_yes h.vo j hj
    · have hin := inode_in h.vo hj
      have hr := rinode_yes (n := n) (m := m) (s := s) (sl := sl) (bm := bm) (bk := bk) w' g gc h.wds hE hc j hj (by omega) (by have := hP.at; omega)
      unfold Ino.rv at hr
      rw [hg] at hr
      exact hr
theorem slot_two {w0 : World} {Q : Nat → Prop} {vb a g gc b1 b3 n m s sl bm bk E : Nat} {W : List Nat} {RC : Array Value} (hP : Pl n m s sl bm bk E) (hE : W.length = E) (i : Int) :
    ∃ (g0 g1 g2 e : Int) (is : Bool), ((is = true ∧ e = 0) ∨ (is = false ∧ e = cd i n)) ∧ ∀ w', Rs w0 Q vb a g gc b1 b3 n m s sl bm bk E W RC w' →
      (Calls Tryz.prog 17 #[.pointer (some ⟨vb, 0, none⟩), .int .i64 i] w' fun r w'' => r = .returned (.tuple #[.agg #[.int .i64 g0, .int .i64 g1, .int .i64 g2], .int .i64 e]) ∧ Below w'.heap.size w' w'') ∧
      (Calls Tryz.prog 18 #[.agg #[.int .i64 (n : Int), .int .i64 (m : Int), .int .i64 (s : Int), .int .i64 16, .int .i64 (sl : Int), .int .i64 (bm : Int), .int .i64 (bk : Int), .int .i64 (E : Int), .slice (some ⟨g, 0, none⟩) E gc], .int .i64 i] w' fun r w'' => r = .returned (.tuple #[.agg #[.int .i64 g0, .int .i64 g1, .int .i64 g2], .bool is]) ∧ Below w'.heap.size w' w'') := by
  by_cases hi : i < 0 ∨ (n : Int) ≤ i
  · exact ⟨0, 0, 0, 9, false, .inr ⟨rfl, by unfold cd; rw [if_pos hi]⟩, fun w' h => ⟨slot_no h.vo i hi, rslot_no w' _ i hi⟩⟩
  · obtain ⟨j, rfl⟩ := Int.eq_ofNat_of_zero_le (show 0 ≤ i by omega)
    have hj : j < n := by omega
    obtain ⟨g0, g1, g2, hg⟩ := gv_three (Slo.dec (W[16 + m * 8 + j]?.getD 0))
    refine ⟨g0, g1, g2, Slo.ev (Slo.dec (W[16 + m * 8 + j]?.getD 0)), (Slo.dec (W[16 + m * 8 + j]?.getD 0)).isSome, ?_, fun w' h => ⟨?_, ?_⟩⟩
    · cases Slo.dec (W[16 + m * 8 + j]?.getD 0) with
      | none => exact .inr ⟨rfl, by unfold cd; rw [if_neg hi]; rfl⟩
      | some t => exact .inl ⟨rfl, rfl⟩
    · rw [← hg]
      exact slot_yes h.vo j hj
    · have hin := slot_in h.vo hj
      have he := hP.e1
      have hr := rslot_yes (n := n) (m := m) (s := s) (sl := sl) (bm := bm) (bk := bk) w' g gc h.wds hE j (16 + m * 8 + j) hj (by omega) (by omega) (by have := hP.at; omega)
      unfold Slo.rv at hr
      rw [hg] at hr
      exact hr

/-- what a volume's Block answers -/
def BkR (i : Int) (n : Nat) (S : ByteArray) (G : Option Addr) (L Gc : Nat) (eb : Int) (w : World) : Prop :=
  ((i < 0 ∨ (n : Int) ≤ i) ∧ eb = 9 ∧ L = 0) ∨ ((0 ≤ i ∧ i < (n : Int)) ∧ eb = 0 ∧ ∀ W, Below w.heap.size w W → (convert 59 9 (.slice G L Gc)).run Tryz.prog W = .ok (.string S) W)
theorem blk_two {w0 : World} {Q : Nat → Prop} {vb a g gc b1 b3 n m s sl bm bk E : Nat} {W : List Nat} {RC : Array Value} (hP : Pl n m s sl bm bk E) (hE : W.length = E) (hc : E ≤ gc) (i : Int) :
    ∃ S : ByteArray, ∀ w', Rs w0 Q vb a g gc b1 b3 n m s sl bm bk E W RC w' →
      (Calls Tryz.prog 21 #[.pointer (some ⟨vb, 0, none⟩), .int .i64 i] w' fun r w'' => ∃ (G : Option Addr) (L Gc : Nat) (eb : Int), r = .returned (.tuple #[.slice G L Gc, .int .i64 eb]) ∧ BkR i n S G L Gc eb w'' ∧ Below w'.heap.size w' w'') ∧
      (0 ≤ i → i < (n : Int) → Calls Tryz.prog 22 #[.agg #[.int .i64 (n : Int), .int .i64 (m : Int), .int .i64 (s : Int), .int .i64 16, .int .i64 (sl : Int), .int .i64 (bm : Int), .int .i64 (bk : Int), .int .i64 (E : Int), .slice (some ⟨g, 0, none⟩) E gc], .int .i64 i] w' fun r w'' => r = .returned (.string S) ∧ Below w'.heap.size w' w'') := by
  by_cases hi : i < 0 ∨ (n : Int) ≤ i
  · refine ⟨⟨#[]⟩, fun w' h => ⟨(block_no h.vo i hi).mono fun r w'' ⟨hr, hb⟩ => ⟨none, 0, 0, 9, hr, .inl ⟨hi, rfl, rfl⟩, hb⟩, fun h0 h1 => by omega⟩⟩
  · obtain ⟨j, rfl⟩ := Int.eq_ofNat_of_zero_le (show 0 ≤ i by omega)
    have hj : j < n := by omega
    obtain ⟨q, hq⟩ : ∃ q, s = 8 * q := ⟨s / 8, by rcases hP.s2 with h | h <;> omega⟩
    refine ⟨Pack.str (Pack.wflat (rdw W (bk + j * q) q)), fun w' h => ⟨?_, fun _ _ => ?_⟩⟩
    · refine (block_yes h.vo hP.e3 hq j hj).mono ?_
      rintro r w'' ⟨G, Gc, rfl, _, hB, hb⟩
      refine ⟨G, 8 * q, Gc, 0, rfl, .inr ⟨⟨by omega, by omega⟩, rfl, fun W' hb' => ?_⟩, hb⟩
      have hcv := Pack.conv_str Gc (hB.keep hb')
      have hl : (Pack.wflat (rdw W (bk + j * q) q)).length = 8 * q := by rw [Pack.wflat_len, rdw_len]
      rw [hl] at hcv
      exact hcv
    · have hat := hP.at
      have hin := block_in n q j hj
      have hs8 : s / 8 = q := by omega
      rw [hs8] at hat
      exact rblock_any w' g gc h.wds hE hc (by omega) j q hq (by have := hP.s2; omega) (by have := hP.s2; omega) (by omega)
theorem RfP.keep {n t : Nat} {l : List Nat} {A : Option Addr} {is : Bool} {w w' : World} (h : RfP n l A t is w) (hb : Below w.heap.size w w') : RfP n l A t is w' := by
  rcases h with ⟨h1, h2, h3, q, h4⟩ | h
  · exact .inl ⟨h1, h2, h3, q, h4.keep hb⟩
  · exact .inr h
theorem rec_two {w0 : World} {Q : Nat → Prop} {vb a g gc b1 b3 n m s sl bm bk E : Nat} {W : List Nat} {RC : Array Value} (hP : Pl n m s sl bm bk E) (hE : W.length = E) (hc : E ≤ gc) :
    ∃ (t0 t1 t2 t3 k : Int), ∀ w', Rs w0 Q vb a g gc b1 b3 n m s sl bm bk E W RC w' →
      (Calls Tryz.prog 25 #[.pointer (some ⟨vb, 0, none⟩)] w' fun r w'' => r = .returned (.tuple #[.agg #[.int .i64 t0, .int .i64 t1, .int .i64 t2, .int .i64 t3], .int .i64 k]) ∧ Below w'.heap.size w' w'') ∧
      (Calls Tryz.prog 26 #[.agg #[.int .i64 (n : Int), .int .i64 (m : Int), .int .i64 (s : Int), .int .i64 16, .int .i64 (sl : Int), .int .i64 (bm : Int), .int .i64 (bk : Int), .int .i64 (E : Int), .slice (some ⟨g, 0, none⟩) E gc]] w' fun r w'' => r = .returned (.tuple #[.agg #[.int .i64 t0, .int .i64 t1, .int .i64 t2, .int .i64 t3], .int .i64 k]) ∧ Below w'.heap.size w' w'') := by
  obtain ⟨t0, t1, t2, t3, hg⟩ := gv_rec (Rec.dec (rdw W 8 8))
  refine ⟨t0, t1, t2, t3, Rec.st (rdw W 8 8), fun w' h => ⟨?_, ?_⟩⟩
  · rw [← hg]
    exact vrecord_any h.vo
  · rw [← hg]
    exact rrecord_any w' g gc h.wds hE hc (by have := hP.at; omega)
theorem rbm_two {w0 : World} {Q : Nat → Prop} {vb a g gc b1 b3 n m s sl bm bk E : Nat} {W : List Nat} {RC : Array Value} (hP : Pl n m s sl bm bk E) (hE : W.length = E) (hc : E ≤ gc) :
    ∀ w', Rs w0 Q vb a g gc b1 b3 n m s sl bm bk E W RC w' →
      Calls Tryz.prog 24 #[.agg #[.int .i64 (n : Int), .int .i64 (m : Int), .int .i64 (s : Int), .int .i64 16, .int .i64 (sl : Int), .int .i64 (bm : Int), .int .i64 (bk : Int), .int .i64 (E : Int), .slice (some ⟨g, 0, none⟩) E gc]] w' fun r w'' => ∃ (B : Option Addr) (t d : Nat) (is : Bool), r = .returned (.tuple #[.slice B t d, .bool is]) ∧ RfP n (rdw W bm ((n + 63) / 64)) B t is w'' ∧ Below w'.heap.size w' w'' := by
  intro w' h
  have hat := hP.at
  have hn := hP.n20
  exact rbitmap_any w' g gc h.wds hE hc (by omega) (by omega) (by omega) (by
    rcases hP.s2 with h | h <;> rw [h] at hat <;> omega)
section
variable {ws : List Nat}
set_option maxHeartbeats 4000000 in
set_option maxRecDepth 100000 in
theorem reads_law (w : World) (hT : Bm.Tab w) (x y k : Nat) (hx : x < 256) (hy : y < 256) (hk : k < 256) (A : Option Addr) (c : Nat) (hws : Pack.Wds w A ws) (i : Int) :
    Calls Tryz.prog 3 #[.agg #[.int .u8 (x : Int), .int .u8 (y : Int), .int .u8 (k : Int), .slice A ws.length c], .int .i64 i] w fun r w' => r = .returned (.bool true) ∧ Below w.heap.size w w' := by
  obtain ⟨sl, bm, bk, E, hpl⟩ := pl_any x y k
  have HL := Lib.hid (fun w' (hb : Below w.heap.size w w') => lives_any w' (hT.below hb hT.lt))
  have HO := Lib.hid (fun w' (hb : Below w.heap.size w w') => lopen_any w' x y k hx hy hk A c (hws.keep hb) hpl)
  have HG := Lib.hid (fun w' => rgeo_any w' x y k hx hy hk (.slice A ws.length c))
  have HP := Lib.hid hpl
  obtain ⟨n, hn⟩ : ∃ n, n = gn x := ⟨_, rfl⟩
  obtain ⟨m, hm⟩ : ∃ m, m = gn y := ⟨_, rfl⟩
  obtain ⟨s, hs⟩ : ∃ s, s = gs k := ⟨_, rfl⟩
  rw [← hn, ← hm, ← hs] at HP HO HG
  clear hn hm hs hpl hT hws
  go_enter Tryz.func3, Tryz.ntmps3
  have hb0 := (Below.refl w.heap.size w).alloc (Nat.le_refl _) (.cells #[.int .u8 (x : Int), .int .u8 (y : Int), .int .u8 (k : Int), .slice A ws.length c] 24)
  have HR1 := Lib.hid (hb_new w #[.int .u8 (x : Int), .int .u8 (y : Int), .int .u8 (k : Int), .slice A ws.length c] 24)
  have HB1 := Lib.hid hb0
  clear hb0
  go_wp2_with fail
  generalize w.alloc (.cells #[.int .u8 (x : Int), .int .u8 (y : Int), .int .u8 (k : Int), .slice A ws.length c] 24) = w1 at *
  refine (HL.out _ HB1.out).mono ?_
  rintro e w2 ⟨rfl, hb⟩
  have HR2 := Lib.hid (HR1.out.keep hb)
  have HB2 := Lib.hid (HB1.out.trans (hb.mono HB1.out.size))
  clear hb HB1 HR1
  have r0 := HR2.out.cell 0
  have r1 := HR2.out.cell 1
  have r2 := HR2.out.cell 2
  have r3 := HR2.out.cell 3
  have rl := HR2.out.lt
  go_wp2_with fail
  refine (HO.out _ HB2.out).mono ?_
  rintro e w3 ⟨Q, vb, a, g, gc, rfl, hov⟩
  clear r0 r1 r2 r3 rl
  have HLN := Lib.hid hov.len
  have HCP := Lib.hid hov.cap
  have hb4 := (Below.refl w3.heap.size w3).alloc (Nat.le_refl _) (.cells (dv n m s sl bm bk E (.slice (some ⟨g, 0, none⟩) E gc)) 30)
  have HS := Lib.hid (show Rs w _ vb a g gc w.heap.size w3.heap.size n m s sl bm bk E _ _ _ from ⟨hov.vo.keep hb4, hov.wds.keep hb4, hb_new w3 (dv n m s sl bm bk E (.slice (some ⟨g, 0, none⟩) E gc)) 30, (HR2.out.keep hov.below).keep hb4, (HB2.out.trans (hov.below.mono HB2.out.size)).trans (hb4.mono (HB2.out.trans (hov.below.mono HB2.out.size)).size)⟩)
  clear hb4 hov HR2 HB2 HO
  generalize rawW n m s E ws = W at *
  unfold dv at HS
  unfold dv
  go_wp2_with fail
  generalize w3.alloc (.cells #[.int .i64 (n : Int), .int .i64 (m : Int), .int .i64 (s : Int), .int .i64 16, .int .i64 (sl : Int), .int .i64 (bm : Int), .int .i64 (bk : Int), .int .i64 (E : Int), .slice (some ⟨g, 0, none⟩) E gc] 30) = w4 at *
  generalize w3.heap.size = b3 at *
  clear w3
  have hE0 : 0 < W.length := by rw [HLN.out]; have := HP.out.at; have := HP.out.n20; omega
  have HE0 := Lib.hid hE0
  clear hE0
  have HS4 := Lib.hid (HS.out.keep (bel_d w4))
  have r0 := HS.out.raw.cell 0
  have r1 := HS.out.raw.cell 1
  have r2 := HS.out.raw.cell 2
  have r3 := HS.out.raw.cell 3
  have c8 := HS.out.box.cell 8
  have rl := HS.out.raw.lt
  have cl := HS.out.box.lt
  go_region_held3 (fun W' => W'.cell? ⟨w.heap.size, 0, none⟩ = some (.int .u8 (x : Int)) ∧ W'.cell? ⟨w.heap.size, 1, none⟩ = some (.int .u8 (y : Int)) ∧ W'.cell? ⟨w.heap.size, 2, none⟩ = some (.int .u8 (k : Int)) ∧ W'.cell? ⟨w.heap.size, 3, none⟩ = some (.slice A ws.length c) ∧ W'.cell? ⟨b3, 8, none⟩ = some (.slice (some ⟨g, 0, none⟩) E gc)) (go_keep)
    (first
    | (go_at_call 10
       with_reducible refine (geometry_any HS4.out.vo).mono ?_
       rintro e w5 ⟨rfl, hb⟩
       have HS5 := Lib.hid (HS4.out.keep hb)
       have d0 := HS5.out.raw.cell 0
       have d1 := HS5.out.raw.cell 1
       have d2 := HS5.out.raw.cell 2
       have d3 := HS5.out.raw.cell 3
       have d8 := HS5.out.box.cell 8
       have dl := HS5.out.raw.lt
       have dm := HS5.out.box.lt
       clear hb)
    | (go_at_call 11
       with_reducible refine (HG.out w5).mono ?_
       rintro e w6 ⟨rfl, hb⟩
       have HS6 := Lib.hid (HS5.out.keep hb)
       have e0 := HS6.out.raw.cell 0
       have e1 := HS6.out.raw.cell 1
       have e2 := HS6.out.raw.cell 2
       have e3 := HS6.out.raw.cell 3
       have e8 := HS6.out.box.cell 8
       have el := HS6.out.raw.lt
       have em := HS6.out.box.lt
       clear hb)
    | (go_at_call 12
       with_reducible refine (device_any HS6.out.vo).mono ?_
       rintro e w7 ⟨rfl, rfl⟩)
    | (go_at_call 14
       with_reducible refine (up_words HS6.out.vo.up HE0.out).mono ?_
       rintro e w7 ⟨g5, c5, rfl, _, hwd5, hb⟩
       rw [HLN.out]
       have HS7 := Lib.hid (HS6.out.keep hb)
       have HD7 := Lib.hid hwd5
       have f0 := HS7.out.raw.cell 0
       have f1 := HS7.out.raw.cell 1
       have f2 := HS7.out.raw.cell 2
       have f3 := HS7.out.raw.cell 3
       have f8 := HS7.out.box.cell 8
       have fl := HS7.out.raw.lt
       have fm := HS7.out.box.lt
       clear hb hwd5)
    | (go_at_call 13
       have hsm := lsame_any (c := c5) (d := gc) HD7.out HS7.out.wds
       rw [HLN.out] at hsm
       with_reducible refine hsm.mono ?_
       rintro e w8 ⟨rfl, q, rfl⟩
       clear hsm))
  have HS8 := Lib.hid (HS7.out.keep (below_dn w7 q))
  clear r0 r1 r2 r3 c8 rl cl d0 d1 d2 d3 d8 dl dm e0 e1 e2 e3 e8 el em f0 f1 f2 f3 f8 fl fm
  generalize w7.drewN q = w8 at *
  obtain ⟨i0, i1, i2, ei, isi, hii, hi2⟩ := ino_two (w0 := w) (Q := Q) (vb := vb) (a := a) (g := g) (gc := gc) (b1 := w.heap.size) (b3 := b3) (W := W) (RC := #[.int .u8 (x : Int), .int .u8 (y : Int), .int .u8 (k : Int), .slice A ws.length c]) HP.out HLN.out HCP.out i
  obtain ⟨s0, s1, s2, es, iss, hss, hs2⟩ := slot_two (w0 := w) (Q := Q) (vb := vb) (a := a) (g := g) (gc := gc) (b1 := w.heap.size) (b3 := b3) (W := W) (RC := #[.int .u8 (x : Int), .int .u8 (y : Int), .int .u8 (k : Int), .slice A ws.length c]) HP.out HLN.out i
  have HI := Lib.hid hi2
  have HSL := Lib.hid hs2
  have HII := Lib.hid hii
  have HSS := Lib.hid hss
  obtain ⟨S, hbk2⟩ := blk_two (w0 := w) (Q := Q) (vb := vb) (a := a) (g := g) (gc := gc) (b1 := w.heap.size) (b3 := b3) (W := W) (RC := #[.int .u8 (x : Int), .int .u8 (y : Int), .int .u8 (k : Int), .slice A ws.length c]) HP.out HLN.out HCP.out i
  have HBK := Lib.hid hbk2
  obtain ⟨t0, t1, t2, t3, kr, hrc2⟩ := rec_two (w0 := w) (Q := Q) (vb := vb) (a := a) (g := g) (gc := gc) (b1 := w.heap.size) (b3 := b3) (W := W) (RC := #[.int .u8 (x : Int), .int .u8 (y : Int), .int .u8 (k : Int), .slice A ws.length c]) HP.out HLN.out HCP.out
  have HRC := Lib.hid hrc2
  have HRB := Lib.hid (rbm_two (w0 := w) (Q := Q) (vb := vb) (a := a) (g := g) (gc := gc) (b1 := w.heap.size) (b3 := b3) (W := W) (RC := #[.int .u8 (x : Int), .int .u8 (y : Int), .int .u8 (k : Int), .slice A ws.length c]) HP.out HLN.out HCP.out)
  clear hi2 hs2 hii hss hbk2 hrc2 HS HS4 HS5 HS6 HS7 HD7
  go_wp2_with fail
  refine (HI.out _ HS8.out).1.mono ?_
  rintro e w9 ⟨rfl, hb⟩
  have HS9 := Lib.hid (HS8.out.keep hb)
  clear hb
  have hb10 := (Below.refl w9.heap.size w9).alloc (Nat.le_refl _) (.cells #[.int .i64 i0, .int .i64 i1, .int .i64 i2] 42)
  have HN10 := Lib.hid (hb_new w9 #[.int .i64 i0, .int .i64 i1, .int .i64 i2] 42)
  have HS10 := Lib.hid (HS9.out.keep hb10)
  clear hb10
  have c0 := HS10.out.box.cell 0
  have c1 := HS10.out.box.cell 1
  have c2 := HS10.out.box.cell 2
  have c3 := HS10.out.box.cell 3
  have c4 := HS10.out.box.cell 4
  have c5 := HS10.out.box.cell 5
  have c6 := HS10.out.box.cell 6
  have c7 := HS10.out.box.cell 7
  have c8 := HS10.out.box.cell 8
  have cl := HS10.out.box.lt
  go_wp2_with fail
  generalize w9.alloc (.cells #[.int .i64 i0, .int .i64 i1, .int .i64 i2] 42) = w10 at *
  generalize w9.heap.size = bn at *
  clear HS9 HS8
  refine (HI.out _ HS10.out).2.mono ?_
  rintro e w11 ⟨rfl, hb⟩
  have HS11 := Lib.hid (HS10.out.keep hb)
  have HN11 := Lib.hid (HN10.out.keep hb)
  clear hb HI
  clear c0 c1 c2 c3 c4 c5 c6 c7 c8 cl
  have hb12 := (Below.refl w11.heap.size w11).alloc (Nat.le_refl _) (.cells #[.int .i64 i0, .int .i64 i1, .int .i64 i2] 47)
  have HM12 := Lib.hid (hb_new w11 #[.int .i64 i0, .int .i64 i1, .int .i64 i2] 47)
  have HS12 := Lib.hid (HS11.out.keep hb12)
  have HN12 := Lib.hid (HN11.out.keep hb12)
  clear hb12 HS10 HN10
  go_wp2_with fail
  generalize w11.alloc (.cells #[.int .i64 i0, .int .i64 i1, .int .i64 i2] 47) = w12 at *
  generalize w11.heap.size = bx at *
  clear HS11 HN11
  refine (HSL.out _ HS12.out).1.mono ?_
  rintro e w13 ⟨rfl, hb⟩
  have hb14 := hb.alloc hb.size (.cells #[.int .i64 s0, .int .i64 s1, .int .i64 s2] 51)
  have HK14 := Lib.hid (hb_new w13 #[.int .i64 s0, .int .i64 s1, .int .i64 s2] 51)
  have HS14 := Lib.hid (HS12.out.keep hb14)
  have HN14 := Lib.hid (HN12.out.keep hb14)
  have HM14 := Lib.hid (HM12.out.keep hb14)
  clear hb hb14
  have c0 := HS14.out.box.cell 0
  have c1 := HS14.out.box.cell 1
  have c2 := HS14.out.box.cell 2
  have c3 := HS14.out.box.cell 3
  have c4 := HS14.out.box.cell 4
  have c5 := HS14.out.box.cell 5
  have c6 := HS14.out.box.cell 6
  have c7 := HS14.out.box.cell 7
  have c8 := HS14.out.box.cell 8
  have cl := HS14.out.box.lt
  go_wp2_with fail
  generalize w13.alloc (.cells #[.int .i64 s0, .int .i64 s1, .int .i64 s2] 51) = w14 at *
  generalize w13.heap.size = bk2 at *
  refine (HSL.out _ HS14.out).2.mono ?_
  rintro e w15 ⟨rfl, hb⟩
  have hb16 := hb.alloc hb.size (.cells #[.int .i64 s0, .int .i64 s1, .int .i64 s2] 54)
  have HT16 := Lib.hid (hb_new w15 #[.int .i64 s0, .int .i64 s1, .int .i64 s2] 54)
  have HS16 := Lib.hid (HS14.out.keep hb16)
  have HN16 := Lib.hid (HN14.out.keep hb16)
  have HM16 := Lib.hid (HM14.out.keep hb16)
  have HK16 := Lib.hid (HK14.out.keep hb16)
  clear hb hb16 HSL HS12 HN12 HM12 HS14 HN14 HM14 HK14
  clear c0 c1 c2 c3 c4 c5 c6 c7 c8 cl
  have hb1 : ((ei : Int) == 0) = isi := by
    rcases HII.out with ⟨h1, h2⟩ | ⟨h1, h2⟩
    · rw [h1, h2]; rfl
    · rw [h1, h2]; unfold cd; split <;> rfl
  have hb2 : ((es : Int) == 0) = iss := by
    rcases HSS.out with ⟨h1, h2⟩ | ⟨h1, h2⟩
    · rw [h1, h2]; rfl
    · rw [h1, h2]; unfold cd; split <;> rfl
  have HRF := Lib.hid (fun w => Ino.ref_any w i0 i1 i2)
  go_wp2_with fail
  generalize w15.alloc (.cells #[.int .i64 s0, .int .i64 s1, .int .i64 s2] 54) = w16 at *
  generalize w15.heap.size = bt at *
  have pbn0 := HN16.out.cell 0
  have pbn1 := HN16.out.cell 1
  have pbn2 := HN16.out.cell 2
  have pbnl := HN16.out.lt
  have pbx0 := HM16.out.cell 0
  have pbx1 := HM16.out.cell 1
  have pbx2 := HM16.out.cell 2
  have pbxl := HM16.out.lt
  have pbk20 := HK16.out.cell 0
  have pbk21 := HK16.out.cell 1
  have pbk22 := HK16.out.cell 2
  have pbk2l := HK16.out.lt
  have pbt0 := HT16.out.cell 0
  have pbt1 := HT16.out.cell 1
  have pbt2 := HT16.out.cell 2
  have pbtl := HT16.out.lt
  go_region_held3 (fun W' => W'.cell? ⟨bn, 0, none⟩ = some (.int .i64 i0) ∧ W'.cell? ⟨bn, 1, none⟩ = some (.int .i64 i1) ∧ W'.cell? ⟨bn, 2, none⟩ = some (.int .i64 i2) ∧ W'.cell? ⟨bx, 0, none⟩ = some (.int .i64 i0) ∧ W'.cell? ⟨bx, 1, none⟩ = some (.int .i64 i1) ∧ W'.cell? ⟨bx, 2, none⟩ = some (.int .i64 i2) ∧ W'.cell? ⟨bk2, 0, none⟩ = some (.int .i64 s0) ∧ W'.cell? ⟨bk2, 1, none⟩ = some (.int .i64 s1) ∧ W'.cell? ⟨bk2, 2, none⟩ = some (.int .i64 s2) ∧ W'.cell? ⟨bt, 0, none⟩ = some (.int .i64 s0) ∧ W'.cell? ⟨bt, 1, none⟩ = some (.int .i64 s1) ∧ W'.cell? ⟨bt, 2, none⟩ = some (.int .i64 s2)) (go_keep)
    (first
    | (go_at_call 19
       with_reducible refine (HRF.out w16.drew).mono ?_
       rintro e w17 ⟨rfl, hb⟩
       have HS17 := Lib.hid ((HS16.out.keep (bel_d w16)).keep hb)
       have HN17 := Lib.hid ((show Hb w16.drew bn _ _ from HN16.out).keep hb)
       have HM17 := Lib.hid ((show Hb w16.drew bx _ _ from HM16.out).keep hb)
       have HK17 := Lib.hid ((show Hb w16.drew bk2 _ _ from HK16.out).keep hb)
       have HT17 := Lib.hid ((show Hb w16.drew bt _ _ from HT16.out).keep hb)
       have qbn0 := HN17.out.cell 0
       have qbn1 := HN17.out.cell 1
       have qbn2 := HN17.out.cell 2
       have qbnl := HN17.out.lt
       have qbx0 := HM17.out.cell 0
       have qbx1 := HM17.out.cell 1
       have qbx2 := HM17.out.cell 2
       have qbxl := HM17.out.lt
       have qbk20 := HK17.out.cell 0
       have qbk21 := HK17.out.cell 1
       have qbk22 := HK17.out.cell 2
       have qbk2l := HK17.out.lt
       have qbt0 := HT17.out.cell 0
       have qbt1 := HT17.out.cell 1
       have qbt2 := HT17.out.cell 2
       have qbtl := HT17.out.lt
       clear hb))
  clear pbn0 pbn1 pbn2 pbnl
  clear pbx0 pbx1 pbx2 pbxl
  clear pbk20 pbk21 pbk22 pbk2l
  clear pbt0 pbt1 pbt2 pbtl
  clear qbn0 qbn1 qbn2 qbnl
  clear qbx0 qbx1 qbx2 qbxl
  clear qbk20 qbk21 qbk22 qbk2l
  clear qbt0 qbt1 qbt2 qbtl
  clear hb1 hb2 HRF HS16 HN16 HM16 HK16 HT16
  have HC1 := Lib.hid (fun w => code_any w i m)
  have HC2 := Lib.hid (fun w => code_any w i n)
  go_upto_region 12 with fail
  go_cut [121] (fun s121 wx => s121 = .bool false ∧ Below w17.heap.size w17 wx)
  case first =>
    have c0 := HS17.out.box.cell 0
    have c1 := HS17.out.box.cell 1
    have cl := HS17.out.box.lt
    rcases HII.out with ⟨h1, h2⟩ | ⟨h1, h2⟩ <;> rcases HSS.out with ⟨h3, h4⟩ | ⟨h3, h4⟩
    all_goals
      subst h1 h2 h3 h4
      go_wp2_with fail
      repeat
        (first
        | (with_reducible refine (HC1.out _).mono ?_; rintro e w18 ⟨rfl, rfl⟩; go_wp2_with fail)
        | (with_reducible refine (HC2.out _).mono ?_; rintro e w18 ⟨rfl, rfl⟩; go_wp2_with fail))

      go_meet
      exact ⟨rfl, Below.refl _ _⟩
  case rest =>
    obtain ⟨rfl, hcut⟩ := hcut
    have HS18 := Lib.hid (HS17.out.keep hcut)
    clear hcut HS17 HC1 HC2 HN17 HM17 HK17 HT17
    rename_i wc0
    go_wp2_with fail
    refine ((HBK.out _ HS18.out).1).mono ?_
    rintro e w19 ⟨G, L, Gc, eb, rfl, hbk, hb⟩
    have HS19 := Lib.hid (HS18.out.keep hb)
    have HBR := Lib.hid hbk
    clear hb hbk HS18
    go_upto_region 15 with fail
    go_cut [135] (fun s135 wx => s135 = .bool (decide (i < 0 ∨ (n : Int) ≤ i)) ∧ w19 = wx)
    case first =>
      have c0 := HS19.out.box.cell 0
      have cl := HS19.out.box.lt
      by_cases h1 : i < 0
      · have h2 : decide (i < 0) = true := decide_eq_true h1
        go_wp2_with fail
        go_meet
        exact ⟨by rw [decide_eq_true (p := i < 0 ∨ (n : Int) ≤ i) (.inl h1)], rfl⟩
      · have h2 : decide (i < 0) = false := decide_eq_false h1
        have h3 : decide (i < 0 ∨ (n : Int) ≤ i) = decide ((n : Int) ≤ i) := by simp [h1]
        clear h3
        go_wp2_with fail
        go_meet
        exact ⟨congrArg Value.bool (decide_eq_decide.2 ⟨.inr, fun h => h.elim (fun h => by omega) id⟩), rfl⟩
    case rest =>
      obtain ⟨rfl, rfl⟩ := hcut
      go_upto_if 135 with fail
      go_cut [] (fun wx => Below w19.heap.size w19 wx)
      case first =>
        rcases HBR.out with ⟨hio, h1, h2⟩ | ⟨hio, h1, h2⟩
        · subst h1 h2
          rw [decide_eq_true (p := i < 0 ∨ (n : Int) ≤ i) hio]
          go_wp2_with fail
          go_meet
          exact Below.refl _ _
        · subst h1
          have HCV := Lib.hid h2
          rw [decide_eq_false (p := i < 0 ∨ (n : Int) ≤ i) (by omega)]
          have HDB := Lib.hid ((HBK.out w19.drew (HS19.out.keep (bel_d w19))).2 hio.1 hio.2)
          clear h2 hio
          have hcv := HCV.out w19.drew (bel_d w19)
          have c0 := HS19.out.box.cell 0
          have c1 := HS19.out.box.cell 1
          have c2 := HS19.out.box.cell 2
          have c3 := HS19.out.box.cell 3
          have c4 := HS19.out.box.cell 4
          have c5 := HS19.out.box.cell 5
          have c6 := HS19.out.box.cell 6
          have c7 := HS19.out.box.cell 7
          have c8 := HS19.out.box.cell 8
          have cl := HS19.out.box.lt
          go_wp2_with fail
          go_region_held3 (fun W' => (convert 59 9 (.slice G L Gc)).run Tryz.prog W' = .ok (.string S) W' ∧ W'.cell? ⟨b3, 0, none⟩ = some (.int .i64 (n : Int)) ∧ W'.cell? ⟨b3, 1, none⟩ = some (.int .i64 (m : Int)) ∧ W'.cell? ⟨b3, 2, none⟩ = some (.int .i64 (s : Int)) ∧ W'.cell? ⟨b3, 3, none⟩ = some (.int .i64 16) ∧ W'.cell? ⟨b3, 4, none⟩ = some (.int .i64 (sl : Int)) ∧ W'.cell? ⟨b3, 5, none⟩ = some (.int .i64 (bm : Int)) ∧ W'.cell? ⟨b3, 6, none⟩ = some (.int .i64 (bk : Int)) ∧ W'.cell? ⟨b3, 7, none⟩ = some (.int .i64 (E : Int)) ∧ W'.cell? ⟨b3, 8, none⟩ = some (.slice (some ⟨g, 0, none⟩) E gc)) (first | exact ⟨by assumption, by go_keep⟩ | go_keep)
            (first
            | (go_at_call 22
               with_reducible refine HDB.out.mono ?_
               rintro e w20 ⟨rfl, hb⟩
               have hb20 := (bel_d w19).trans (hb.mono (bel_d w19).size)
               have hcv2 := HCV.out w20 hb20
               have HS20 := Lib.hid (HS19.out.keep hb20)
               have d0 := HS20.out.box.cell 0
               have d1 := HS20.out.box.cell 1
               have d2 := HS20.out.box.cell 2
               have d3 := HS20.out.box.cell 3
               have d4 := HS20.out.box.cell 4
               have d5 := HS20.out.box.cell 5
               have d6 := HS20.out.box.cell 6
               have d7 := HS20.out.box.cell 7
               have d8 := HS20.out.box.cell 8
               have dl := HS20.out.box.lt
               clear hb))
          go_wp2_with fail
          go_meet
          exact hb20
      case rest =>
        have HS20 := Lib.hid (HS19.out.keep hcut)
        clear hcut HS19 HBR HBK
        go_wp2_with fail
        refine (vbitmap_any HS20.out.vo HP.out.e2).mono ?_
        rintro e w21 ⟨X, eh, rfl, hof, hb⟩
        have HOF21 := Lib.hid hof
        have HS21 := Lib.hid (HS20.out.keep hb)
        clear hof hb HS20
        have c0 := HS21.out.box.cell 0
        have c1 := HS21.out.box.cell 1
        have c2 := HS21.out.box.cell 2
        have c3 := HS21.out.box.cell 3
        have c4 := HS21.out.box.cell 4
        have c5 := HS21.out.box.cell 5
        have c6 := HS21.out.box.cell 6
        have c7 := HS21.out.box.cell 7
        have c8 := HS21.out.box.cell 8
        have cl := HS21.out.box.lt
        go_wp2_with fail
        refine (HRB.out w21 HS21.out).mono ?_
        rintro e w22 ⟨Y, t, d, may, rfl, hrf, hb⟩
        have HRF22 := Lib.hid hrf
        have HOF22 := Lib.hid (HOF21.out.keep hb)
        have HS22 := Lib.hid (HS21.out.keep hb)
        clear hrf hb HS21 HOF21 c0 c1 c2 c3 c4 c5 c6 c7 c8 cl
        go_wp2_with fail
        refine (HRC.out w22 HS22.out).1.mono ?_
        rintro e w23 ⟨rfl, hb⟩
        have hb24 := hb.alloc hb.size (.cells #[.int .i64 t0, .int .i64 t1, .int .i64 t2, .int .i64 t3] 70)
        have HA24 := Lib.hid (hb_new w23 #[.int .i64 t0, .int .i64 t1, .int .i64 t2, .int .i64 t3] 70)
        have HRF24 := Lib.hid (HRF22.out.keep hb24)
        have HOF24 := Lib.hid (HOF22.out.keep hb24)
        have HS24 := Lib.hid (HS22.out.keep hb24)
        clear hb hb24 HRF22 HOF22 HS22
        have c0 := HS24.out.box.cell 0
        have c1 := HS24.out.box.cell 1
        have c2 := HS24.out.box.cell 2
        have c3 := HS24.out.box.cell 3
        have c4 := HS24.out.box.cell 4
        have c5 := HS24.out.box.cell 5
        have c6 := HS24.out.box.cell 6
        have c7 := HS24.out.box.cell 7
        have c8 := HS24.out.box.cell 8
        have cl := HS24.out.box.lt
        go_wp2_with fail
        generalize w23.alloc (.cells #[.int .i64 t0, .int .i64 t1, .int .i64 t2, .int .i64 t3] 70) = w24 at *
        generalize w23.heap.size = ba at *
        refine (HRC.out w24 HS24.out).2.mono ?_
        rintro e w25 ⟨rfl, hb⟩
        have hb26 := hb.alloc hb.size (.cells #[.int .i64 t0, .int .i64 t1, .int .i64 t2, .int .i64 t3] 74)
        have HC26 := Lib.hid (hb_new w25 #[.int .i64 t0, .int .i64 t1, .int .i64 t2, .int .i64 t3] 74)
        have HA26 := Lib.hid (HA24.out.keep hb26)
        have HRF26 := Lib.hid (HRF24.out.keep hb26)
        have HOF26 := Lib.hid (HOF24.out.keep hb26)
        have HS26 := Lib.hid (HS24.out.keep hb26)
        clear hb hb26 HRF24 HOF24 HS24 HA24 c0 c1 c2 c3 c4 c5 c6 c7 c8 cl
        go_upto_region 24 with fail
        generalize w25.alloc (.cells #[.int .i64 t0, .int .i64 t1, .int .i64 t2, .int .i64 t3] 74) = w26 at *
        generalize w25.heap.size = bc at *
        have hbw := HS26.out.below
        have a0 := HA26.out.cell 0
        have a1 := HA26.out.cell 1
        have a2 := HA26.out.cell 2
        have a3 := HA26.out.cell 3
        have al := HA26.out.lt
        have c0 := HC26.out.cell 0
        have c1 := HC26.out.cell 1
        have c2 := HC26.out.cell 2
        have c3 := HC26.out.cell 3
        have cl := HC26.out.lt
        rcases HOF26.out with ⟨hg, h1, p, q, C, h2, _, _, hM⟩ | ⟨hg, h1, h2⟩
        · rcases HRF26.out with ⟨_, h3, h4, r, hB⟩ | ⟨hng, _⟩
          · subst h1 h2 h3 h4
            have HSM := Lib.hid (Bm.lawSame_any hM Y d hB)
            clear hM hB hg HOF26 HRF26
            go_wp2_with fail
            refine HSM.out.mono ?_
            rintro e w27 ⟨rfl, hb⟩
            go_wp2
            go_ret
            exact ⟨rfl, hbw.trans (hb.mono hbw.size)⟩
          · exact absurd hg hng
        · rcases HRF26.out with ⟨hng, _⟩ | ⟨_, h3⟩
          · exact absurd hng hg
          · subst h1 h2 h3
            clear hg HOF26 HRF26
            go_wp2_with fail
            go_ret
            exact ⟨rfl, hbw⟩
end
end Vol
end Go.Proofs.YtcojgpjappjobaaGreatDoor
