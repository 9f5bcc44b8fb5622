/- InodeNone, walked. -/
import Derived.Test.YtoigfhijlnajoaaInoTurned
namespace Go.Proofs.Ytoigfhijlnajoaa
open Go.RowKit Go.MapKept
namespace Ino
open Lin

/-- an inode's block k, two rows of noughts -/
structure Nn (w0 w : World) (k g f : Nat) : Prop where
  box : Box w k 0 (-1) 0
  row : w.rowIs g 45 8 (rowOf zero)
  two : w.rowIs f 45 8 (rowOf zero)
  below : Below w0.heap.size w0 w
theorem Nn.keep {w0 w w' : World} {k g f : Nat} (h : Nn w0 w k g f) (hb : Below w.heap.size w w') : Nn w0 w' k g f :=
  ⟨h.box.keep hb, row_keep h.row hb, row_keep h.two hb, h.below.trans (hb.mono h.below.size)⟩
theorem Nn.drew {w0 w : World} {k g f : Nat} (h : Nn w0 w k g f) : Nn w0 w.drew k g f := h.keep (Below.refl _ _).drew
theorem Nn.drewN {w0 w : World} {k g f : Nat} (h : Nn w0 w k g f) (n : Nat) : Nn w0 (w.drewN n) k g f := h.keep (Pack.below_drewN (Below.refl _ _) n)

theorem same_zero {w0 w : World} {k g f : Nat} (h : Nn w0 w k g f) : Calls Try.prog 11 #[.slice (some ⟨f, 0, none⟩) 8 8, .slice (some ⟨g, 0, none⟩) 8 8] w fun e w' => e = .returned (.bool true) ∧ ∃ n, w' = w.drewN n :=
  Pack.same_any (some ⟨f, 0, none⟩) (some ⟨g, 0, none⟩) 8 8 zero zero (row_pack h.two rfl zero_u64) (row_pack h.row rfl zero_u64)

theorem row_zero_set {w : World} {g j y : Nat} (hj : j < 8) (h : w.rowIs g 45 8 (rowOf zero)) : (w.setCell ⟨g, j, none⟩ (.int .u64 (y : Int))).rowIs g 45 8 (rowOf (zero.set j y)) := row_set rfl hj h

set_option maxHeartbeats 2000000 in
set_option maxRecDepth 100000 in
theorem none_law (w : World) (at' x : Nat) (hat : at' < 256) (hx64 : x < 18446744073709551616) :
    Calls Try.prog 6 #[.int .u8 (at' : Int), .int .u64 (x : Int)] w fun r w' => r = .returned (.bool true) ∧ Below w.heap.size w w' := by
  have HL := Lib.hid lives_any
  have HNN := Lib.hid none_any
  have HM := Lib.hid (fun w => may_any w 0 (-1) 0)
  have HMT := Lib.hid (show may 0 (-1) 0 = true by decide)
  have HEF := Lib.hid encode_free
  obtain ⟨j, hj⟩ : ∃ j, j = at' % 8 := ⟨_, rfl⟩
  have hj8 : j < 8 := by omega
  have HJ := Lib.hid (show (at' : Int) % 8 = (j : Int) by omega)
  clear hj
  go_enter Try.func6, Try.ntmps6
  go_wp2_with fail
  refine (HL.out _).mono ?_
  rintro e w1 ⟨rfl, hb⟩
  have HB1 := Lib.hid hb
  clear hb
  have hmk := run_make_row' (P := Try.prog) 26 45 _ 8 Try.underlying26 Pack.u64_info rfl .i64 .i64 8 (by omega) (by omega) w1
  rw [show ((8 : Nat) : Int) = 8 from rfl] at hmk
  have hb2 := (Below.refl w1.heap.size w1).alloc (Nat.le_refl _) (.cells (madeCells #[.int .u64 0] 8) 45)
  have HB2 := Lib.hid (HB1.out.trans (hb2.mono HB1.out.size))
  have HR2 := Lib.hid (row_zero (row_made w1))
  have hdc := decode_any (some ⟨w1.heap.size, 0, none⟩) 8 zero (row_pack HR2.out rfl zero_u64)
  rw [dec_zero] at hdc
  have hdc' : Calls Try.prog 13 #[.slice (some ⟨w1.heap.size, 0, none⟩) 8 8] (w1.alloc (.cells (madeCells #[.int .u64 0] 8) 45)) fun r w' => r = .returned (.tuple #[.agg #[.int .i64 0, .int .i64 (-1), .int .i64 0], .int .i64 0]) ∧ Below (w1.alloc (.cells (madeCells #[.int .u64 0] 8) 45)).heap.size (w1.alloc (.cells (madeCells #[.int .u64 0] 8) 45)) w' := hdc
  have hgw : w.heap.size ≤ w1.heap.size := HB1.out.size
  have HD := Lib.hid hdc'
  clear hdc hdc' hb2 HB1
  go_wp2_with fail
  generalize w1.alloc (.cells (madeCells #[.int .u64 0] 8) 45) = w2 at *
  generalize hg : w1.heap.size = g at *
  clear hg hmk
  refine HD.out.mono ?_
  rintro e w3 ⟨rfl, hb⟩
  have hb3 := hb.alloc hb.size (.cells #[.int .i64 0, .int .i64 (-1), .int .i64 0] 24)
  have HB3 := Lib.hid (HB2.out.trans (hb3.mono HB2.out.size))
  have HY3 := Lib.hid (boxed w3 0 (-1) 0 24)
  have HR3 := Lib.hid (row_keep HR2.out hb3)
  clear hb hb3 HB2 HR2 HD
  go_wp2_with fail
  generalize w3.alloc (.cells #[.int .i64 0, .int .i64 (-1), .int .i64 0] 24) = w4 at *
  generalize w3.heap.size = k3 at *
  refine (HNN.out _).mono ?_
  rintro e w5 ⟨rfl, hb⟩
  have HB5 := Lib.hid (HB3.out.trans (hb.mono HB3.out.size))
  have HY5 := Lib.hid (HY3.out.keep hb)
  have HR5 := Lib.hid (row_keep HR3.out hb)
  clear hb HB3 HY3 HR3
  go_wp2_with fail
  refine (HEF.out _).mono ?_
  rintro e w6 ⟨f, hf, rfl, hrow, hb⟩
  have HN6 := Lib.hid (show Nn w w6 k3 g f from ⟨HY5.out.keep hb, row_keep HR5.out hb, hrow, HB5.out.trans (hb.mono HB5.out.size)⟩)
  clear hb HB5 HY5 HR5 hrow hf HEF
  have hc0 := HN6.out.box.c0
  have hc1 := HN6.out.box.c1
  have hc2 := HN6.out.box.c2
  go_wp2
  go_region_held3 (fun W' => W'.cell? ⟨k3, 0, none⟩ = some (.int .i64 0) ∧ W'.cell? ⟨k3, 1, none⟩ = some (.int .i64 (-1)) ∧ W'.cell? ⟨k3, 2, none⟩ = some (.int .i64 0)) (go_keep)
    (first
    | (go_at_call 15
       with_reducible refine (HNN.out _).mono ?_
       rintro e w7 ⟨rfl, hb⟩
       have HN7 := Lib.hid (HN6.out.drew.keep hb)
       have hk0 := HN7.out.box.c0
       have hk1 := HN7.out.box.c1
       have hk2 := HN7.out.box.c2
       clear hb)
    | (go_at_call 11
       refine (same_zero HN7.out).mono ?_
       rintro e w8 ⟨rfl, q, hq⟩
       have HN8 := Lib.hid (show Nn w w8 k3 g f by rw [hq]; exact HN7.out.drewN q)
       have hl0 := HN8.out.box.c0
       have hl1 := HN8.out.box.c1
       have hl2 := HN8.out.box.c2
       clear hq)
    | (go_at_call 15
       with_reducible refine (HNN.out _).mono ?_
       rintro e w9 ⟨rfl, hb⟩
       have HN9 := Lib.hid (HN8.out.keep hb)
       have hm0 := HN9.out.box.c0
       have hm1 := HN9.out.box.c1
       have hm2 := HN9.out.box.c2
       clear hb)
    | (go_at_call 12
       with_reducible refine (HM.out _).mono ?_
       rintro e wt ⟨rfl, hb⟩
       rw [HMT.out]
       have HNt := Lib.hid (HN9.out.keep hb)
       have hn0 := HNt.out.box.c0
       have hn1 := HNt.out.box.c1
       have hn2 := HNt.out.box.c2
       clear hb))
  clear hc0 hc1 hc2 hk0 hk1 hk2 hl0 hl1 hl2 hm0 hm1 hm2 hn0 hn1 hn2 HN6 HN7 HN8 HN9
  have hrc : wt.cell? ⟨g, j, none⟩ = some (.int .u64 0) := by
    rw [HNt.out.row.cell hj8]
    unfold rowOf
    rw [zero_at]
    rfl
  have hrf := HNt.out.row.frozen j
  have hj0 : (0 : Int) ≤ (j : Int) := by omega
  have hj1 : (j : Int) < 8 := by omega
  have HRS := Lib.hid (row_zero_set (y := x) hj8 HNt.out.row)
  have HBS := Lib.hid (HNt.out.below.setCell (p := ⟨g, j, none⟩) hgw (.int .u64 (x : Int)))
  have hJ := HJ.out
  obtain ⟨er, hdec, hcase⟩ : ∃ er : Int, (∀ W, W.rowIs g 45 8 (rowOf (zero.set j x)) → Calls Try.prog 13 #[.slice (some ⟨g, 0, none⟩) 8 8] W fun r w' => r = .returned (.tuple #[.agg #[.int .i64 0, .int .i64 (-1), .int .i64 0], .int .i64 er]) ∧ Below W.heap.size W w') ∧ (er = 0 ∧ x = 0 ∨ er = 2 ∧ x ≠ 0) := by
    by_cases hx : x = 0
    · subst hx
      refine ⟨0, fun W hW => ?_, .inl ⟨rfl, rfl⟩⟩
      rw [set_zero hj8] at hW
      have hd := decode_any (some ⟨g, 0, none⟩) 8 zero (row_pack hW rfl zero_u64)
      rw [dec_zero] at hd
      exact hd
    · refine ⟨2, fun W hW => ?_, .inr ⟨rfl, hx⟩⟩
      have hd := decode_any (some ⟨g, 0, none⟩) 8 (zero.set j x) (row_pack hW (by rw [List.length_set]; rfl) (set_u64 zero_u64 j hx64))
      rw [set_none hj8 hx, show (zero.set j x).length = 8 by rw [List.length_set]; rfl] at hd
      exact hd
  have HDD := Lib.hid (hdec _ HRS.out)
  clear hdec HRS
  rcases hcase with ⟨rfl, rfl⟩ | ⟨rfl, hx⟩
  · go_wp2_with fail
    generalize wt.setCell ⟨g, j, none⟩ (.int .u64 ((0 : Nat) : Int)) = wu at *
    refine HDD.out.mono ?_
    rintro e wv ⟨rfl, hb⟩
    have hb4 := hb.alloc hb.size (.cells #[.int .i64 0, .int .i64 (-1), .int .i64 0] 24)
    have HB4 := Lib.hid (HBS.out.trans (hb4.mono HBS.out.size))
    have HY := Lib.hid (boxed wv 0 (-1) 0 24)
    clear hb hb4 HBS HDD hrc hrf hJ
    go_wp2
    generalize wv.alloc (.cells #[.int .i64 0, .int .i64 (-1), .int .i64 0] 24) = wx at *
    generalize wv.heap.size = kv at *
    have hc0 := HY.out.c0
    have hc1 := HY.out.c1
    have hc2 := HY.out.c2
    go_region_held3 (fun W' => W'.cell? ⟨kv, 0, none⟩ = some (.int .i64 0) ∧ W'.cell? ⟨kv, 1, none⟩ = some (.int .i64 (-1)) ∧ W'.cell? ⟨kv, 2, none⟩ = some (.int .i64 0)) (go_keep)
      (first
      | (go_at_call 15
         with_reducible refine (HNN.out _).mono ?_
         rintro e wy ⟨rfl, hb⟩
         have HYy := Lib.hid (HY.out.drew.keep hb)
         have hk0 := HYy.out.c0
         have hk1 := HYy.out.c1
         have hk2 := HYy.out.c2
         have HBy := Lib.hid (HB4.out.drew.trans (hb.mono HB4.out.drew.size))
         clear hb))
    go_wp2
    go_ret
    exact ⟨rfl, HBy.out⟩
  · have hxb : ((x : Int) == 0) = false := beq_eq_false_iff_ne.2 (by omega)
    go_wp2_with fail
    generalize wt.setCell ⟨g, j, none⟩ (.int .u64 (x : Int)) = wu at *
    refine HDD.out.mono ?_
    rintro e wv ⟨rfl, hb⟩
    have hb4 := hb.alloc hb.size (.cells #[.int .i64 0, .int .i64 (-1), .int .i64 0] 24)
    have HB4 := Lib.hid (HBS.out.trans (hb4.mono HBS.out.size))
    have HY := Lib.hid (boxed wv 0 (-1) 0 24)
    clear hb hb4 HBS HDD hrc hrf hJ
    go_wp2
    generalize wv.alloc (.cells #[.int .i64 0, .int .i64 (-1), .int .i64 0] 24) = wx at *
    generalize wv.heap.size = kv at *
    have hc0 := HY.out.c0
    have hc1 := HY.out.c1
    have hc2 := HY.out.c2
    go_region_held3 (fun W' => W'.cell? ⟨kv, 0, none⟩ = some (.int .i64 0) ∧ W'.cell? ⟨kv, 1, none⟩ = some (.int .i64 (-1)) ∧ W'.cell? ⟨kv, 2, none⟩ = some (.int .i64 0)) (go_keep)
      (first
      | (go_at_call 15
         with_reducible refine (HNN.out _).mono ?_
         rintro e wy ⟨rfl, hb⟩
         have HYy := Lib.hid (HY.out.drew.keep hb)
         have hk0 := HYy.out.c0
         have hk1 := HYy.out.c1
         have hk2 := HYy.out.c2
         have HBy := Lib.hid (HB4.out.drew.trans (hb.mono HB4.out.drew.size))
         clear hb))
    go_wp2
    go_ret
    exact ⟨rfl, HBy.out⟩
end Ino
end Go.Proofs.Ytoigfhijlnajoaa
