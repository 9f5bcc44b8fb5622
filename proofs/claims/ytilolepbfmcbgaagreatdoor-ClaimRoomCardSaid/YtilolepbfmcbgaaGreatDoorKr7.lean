/- Texts laid together: RecEncode, RecDecode, RecRef, RecRefDec, RecLives, VolLives, VolWrote, ChnMay, ChnMath, ChnWords, ChnMem, ChnRead, ClmOpen, ChnTell. -/
import Derived.Test.YtilolepbfmcbgaaGreatDoorKr6
import Derived.Test.YtilolepbfmcbgaaGreatDoorKr2
import Derived.Test.YtilolepbfmcbgaaGreatDoorKr5
import Derived.Test.YtilolepbfmcbgaaGreatDoorKr4
import Derived.Test.YtilolepbfmcbgaaGreatDoorKa2
import Derived.Test.YtilolepbfmcbgaaGreatDoorKa1
import Derived.Carry
import Derived.Test.YtilolepbfmcbgaaGreatDoorKa3
import Derived.Test.YtilolepbfmcbgaaGreatDoorKr1
import Derived.Test.YtilolepbfmcbgaaGreatDoorKr3
/- The program's line of a record: Encode, walked. -/
namespace Go.Proofs.YtilolepbfmcbgaaGreatDoor
open Go.RowKit Go.MapKept
namespace Rec
open Lin

theorem field_any (w : World) (n : Nat) (h : n < 65536) :
    Calls Tryz.prog 173 #[.int .i64 (n : Int)] w fun r w' => r = .returned (.agg #[.int .i64 16, .int .u64 (n : Int)]) ∧ Below w.heap.size w w' := by
  go_enter Tryz.func173, Tryz.ntmps173
  go_wp2
  refine bodyPost_ret (v := .agg #[.int .i64 16, .int .u64 (n : Int)]) ?_ rfl ⟨rfl, ?_⟩
  · simp [results, Tryz.results173, go_sem]
  · first
    | exact (Below.refl _ _).alloc (Nat.le_refl _) _
    | exact (((Below.refl _ _).alloc (Nat.le_refl _) _).setCell (by simp) _).setCell (by simp) _

theorem field_one (w : World) : Calls Tryz.prog 173 #[.int .i64 1] w fun r w' => r = .returned (.agg #[.int .i64 16, .int .u64 1]) ∧ Below w.heap.size w w' := field_any w 1 (by decide)

theorem nums_any (w : World) {s f t : Nat} (hs : s < 65536) (hf : f < 65536) (ht : t < 65536) : Calls Tryz.prog 92 #[.slice (some ⟨w.heap.size, 0, none⟩) 4 4] (w.alloc (.cells #[.int .i64 16, .int .u64 1, .int .i64 16, .int .u64 (s : Int), .int .i64 16, .int .u64 (f : Int), .int .i64 16, .int .u64 (t : Int)] 162)) fun e w' => e = .returned (.tuple #[.int .u64 (nums s f t : Nat), .bool true]) ∧ Below w.heap.size w w' := by
  refine (Pack.pack_any _ 4 _ (fds_four w (n := 1) (by decide) hs hf ht)).mono ?_
  rintro e w' ⟨rfl, hb⟩
  rw [pk_nums hs hf ht]
  have hb0 := (Below.refl w.heap.size w).alloc (Nat.le_refl _) (.cells #[.int .i64 16, .int .u64 ((1 : Nat) : Int), .int .i64 16, .int .u64 (s : Int), .int .i64 16, .int .u64 (f : Int), .int .i64 16, .int .u64 (t : Int)] 162)
  exact ⟨rfl, hb0.trans (hb.mono hb0.size)⟩

theorem encode_no (w : World) (s f t c : Int) (hm : may s f t c = false) :
    Calls Tryz.prog 149 #[.agg #[.int .i64 s, .int .i64 f, .int .i64 t, .int .i64 c]] w fun r w' => r = .returned (.tuple #[.slice none 0 0, .int .i64 1]) ∧ Below w.heap.size w w' := by
  have HM := Lib.hid (fun w => may_any w s f t c)
  have HE := Lib.hid hm
  clear hm
  have HB := Lib.hid ((Below.refl w.heap.size w).alloc (Nat.le_refl _) (.cells #[.int .i64 s, .int .i64 f, .int .i64 t, .int .i64 c] 212))
  go_enter Tryz.func149, Tryz.ntmps149
  go_wp2_with fail
  refine (HM.out _).mono ?_
  rintro e w' ⟨rfl, hb⟩
  rw [HE.out]
  have HB1 := Lib.hid (HB.out.trans (hb.mono HB.out.size))
  clear hb
  go_wp2
  go_ret2
  exact ⟨rfl, HB1.out⟩

theorem set_nums (x : Nat) (j : Nat) (_h : j < 8) : (if j = 0 then x else ([] : List Nat)[j]?.getD 0) = [x][j]?.getD 0 := by
  match j with
  | 0 => rfl
  | j + 1 => simp
theorem set_count (x y : Nat) (j : Nat) (_h : j < 8) : (if j = 1 then y else [x][j]?.getD 0) = [x, y][j]?.getD 0 := by
  match j with
  | 0 => rfl
  | 1 => rfl
  | j + 2 => simp
theorem set_sum (x y z : Nat) (j : Nat) (h : j < 8) : (if j = 7 then z else [x, y][j]?.getD 0) = [x, y, 0, 0, 0, 0, 0, z][j]?.getD 0 := by
  have : j = 0 ∨ j = 1 ∨ j = 2 ∨ j = 3 ∨ j = 4 ∨ j = 5 ∨ j = 6 ∨ j = 7 := by omega
  rcases this with rfl | rfl | rfl | rfl | rfl | rfl | rfl | rfl <;> rfl

theorem front_crc {w : World} {g s f t c : Nat} (h : w.rowIs g 121 8 (rowOf [nums s f t, c])) (hs : s < 65536) (hf : f < 65536) (ht : t < 65536) (hc : c < 18446744073709551616) : Crc.Wds w (some ⟨g, 0, none⟩) (front s f t c) := by
  refine row_crc h (by rw [front_len]; omega) (front_u64 hs hf ht hc) ?_
  intro j hj
  have : j < 7 := hj
  have : j = 0 ∨ j = 1 ∨ j = 2 ∨ j = 3 ∨ j = 4 ∨ j = 5 ∨ j = 6 := by omega
  rcases this with rfl | rfl | rfl | rfl | rfl | rfl | rfl <;> rfl

set_option maxHeartbeats 2000000 in
set_option maxRecDepth 100000 in
theorem encode_yes (w : World) (s f t c : Nat) (hm : may s f t c = true) :
    Calls Tryz.prog 149 #[.agg #[.int .i64 (s : Int), .int .i64 (f : Int), .int .i64 (t : Int), .int .i64 (c : Int)]] w fun r w' => ∃ g : Nat, w.heap.size ≤ g ∧ r = .returned (.tuple #[.slice (some ⟨g, 0, none⟩) 8 8, .int .i64 0]) ∧ w'.rowIs g 121 8 (rowOf (ln s f t c)) ∧ Below w.heap.size w w' := by
  obtain ⟨h1, h2, h3, h4, h5⟩ := may_lt hm
  have HM := Lib.hid (fun w => may_any w s f t c)
  have HE := Lib.hid hm
  have HN0 := Lib.hid (fun w => field_one w)
  have HN1 := Lib.hid (fun w => field_any w s (by omega))
  have HN2 := Lib.hid (fun w => field_any w f (by omega))
  have HN3 := Lib.hid (fun w => field_any w t (by omega))
  have HP := Lib.hid (fun w => nums_any w (s := s) (f := f) (t := t) (by omega) (by omega) (by omega))
  have hs64 : s < 65536 := by omega
  have hf64 : f < 65536 := by omega
  have ht64 : t < 65536 := by omega
  have hc64 : c < 18446744073709551616 := by omega
  clear hm
  have HB := Lib.hid ((Below.refl w.heap.size w).alloc (Nat.le_refl _) (.cells #[.int .i64 (s : Int), .int .i64 (f : Int), .int .i64 (t : Int), .int .i64 (c : Int)] 212))
  have HX := Lib.hid (boxed4 w s f t c 212)
  go_enter Tryz.func149, Tryz.ntmps149
  go_wp2_with fail
  refine (HM.out _).mono ?_
  rintro e w1 ⟨rfl, hb⟩
  rw [HE.out]
  have HB1 := Lib.hid (HB.out.trans (hb.mono HB.out.size))
  have HX1 := Lib.hid (HX.out.keep hb)
  have hsz : w.heap.size < w1.heap.size := HX1.out.lt
  clear hb HX
  have hmk := run_make_row' (P := Tryz.prog) 22 121 _ 8 Tryz.underlying22 Pack.u64_info rfl .i64 .i64 8 (by omega) (by omega) w1
  rw [show ((8 : Nat) : Int) = 8 from rfl] at hmk
  have hb2 := (Below.refl w1.heap.size w1).alloc (Nat.le_refl _) (.cells (madeCells #[.int .u64 0] 8) 121)
  have HE2 := Lib.hid (show En4 w w.heap.size w.heap.size w1.heap.size s f t c [] (w1.alloc (.cells (madeCells #[.int .u64 0] 8) 121)) from ⟨HX1.out.keep hb2, row_made w1, by omega, HB1.out.trans (hb2.mono HB1.out.size), HB1.out.size⟩)
  clear hb2 HX1 HB1 HB HM HE
  go_wp2
  generalize w1.alloc (.cells (madeCells #[.int .u64 0] 8) 121) = w2 at *
  generalize hg : w1.heap.size = g at *
  clear hg hmk
  have hs2 : w.heap.size < w2.heap.size := HE2.out.box.lt
  have hc0 := HE2.out.box.c0
  have hc1 := HE2.out.box.c1
  have hc2 := HE2.out.box.c2
  go_region_held3 (fun W' => W'.cell? ⟨w.heap.size, 0, none⟩ = some (.int .i64 (s : Int)) ∧ W'.cell? ⟨w.heap.size, 1, none⟩ = some (.int .i64 (f : Int)) ∧ W'.cell? ⟨w.heap.size, 2, none⟩ = some (.int .i64 (t : Int))) (go_keep)
    (first
    | (go_at_call 173
       with_reducible refine (HN0.out _).mono ?_
       rintro e w3 ⟨rfl, hb⟩
       have HE3 := Lib.hid (HE2.out.drew.keep hb (Nat.le_of_lt HE2.out.drew.box.lt))
       have ha0 := HE3.out.box.c0
       have ha1 := HE3.out.box.c1
       have ha2 := HE3.out.box.c2
       clear hb)
    | (go_at_call 173
       with_reducible refine (HN1.out _).mono ?_
       rintro e w4 ⟨rfl, hb⟩
       have HE4 := Lib.hid (HE3.out.keep hb (Nat.le_of_lt HE3.out.box.lt))
       have hk0 := HE4.out.box.c0
       have hk1 := HE4.out.box.c1
       have hk2 := HE4.out.box.c2
       clear hb)
    | (go_at_call 173
       with_reducible refine (HN2.out _).mono ?_
       rintro e w5 ⟨rfl, hb⟩
       have HE5 := Lib.hid (HE4.out.keep hb (Nat.le_of_lt HE4.out.box.lt))
       have hl0 := HE5.out.box.c0
       have hl1 := HE5.out.box.c1
       have hl2 := HE5.out.box.c2
       clear hb)
    | (go_at_call 173
       with_reducible refine (HN3.out _).mono ?_
       rintro e w6 ⟨rfl, hb⟩
       have HE6 := Lib.hid (HE5.out.keep hb (Nat.le_of_lt HE5.out.box.lt))
       have hm0 := HE6.out.box.c0
       have hm1 := HE6.out.box.c1
       have hm2 := HE6.out.box.c2
       clear hb)
    | (go_at_call 92
       with_reducible refine (HP.out _).mono ?_
       rintro e w8 ⟨rfl, hb⟩
       have HE8 := Lib.hid (HE6.out.keep hb (Nat.le_of_lt HE6.out.box.lt))
       have hn0 := HE8.out.box.c0
       have hn1 := HE8.out.box.c1
       have hn2 := HE8.out.box.c2
       have hn3 := HE8.out.row.cell (i := 0) (by omega)
       have hn4 := HE8.out.row.frozen 0
       have HE9 := Lib.hid (HE8.out.set 0 (nums s f t) (set_nums _))
       have hq0 := HE9.out.box.c0
       have hq1 := HE9.out.box.c1
       have hq2 := HE9.out.box.c2
       clear hb))
  clear ha0 ha1 ha2 hk0 hk1 hk2 hl0 hl1 hl2 hm0 hm1 hm2 hn0 hn1 hn2 hn3 hn4 hq0 hq1 hq2 hc0 hc1 hc2 HE3 HE4 HE5 HE6 HE8 HE2 HN0 HN1 HN2 HN3 HP hs2
  generalize w8.setCell ⟨g, 0, none⟩ (.int .u64 (nums s f t : Int)) = w9 at *
  have hs9 : w.heap.size < w9.heap.size := HE9.out.box.lt
  have hc3 := HE9.out.box.c3
  have hrc := HE9.out.row.cell (i := 1) (by omega)
  have hrf := HE9.out.row.frozen 1
  have HE10 := Lib.hid (HE9.out.set 1 c (set_count _ _))
  have HC := Lib.hid (Crc.words32_any (some ⟨g, 0, none⟩) 8 (front s f t c) (front_crc HE10.out.row hs64 hf64 ht64 hc64))
  have hsl := sum_lt s f t c
  have hrc7 := HE10.out.row.cell (i := 7) (by omega)
  have hrf7 := HE10.out.row.frozen 7
  go_wp2_with fail
  refine HC.out.mono ?_
  rintro e w' ⟨rfl, rfl⟩
  rw [show Crc.S32 (Crc.wflat (front s f t c)) = sum s f t c from rfl]
  clear HC hc3 hrc hrf
  generalize w9.setCell ⟨g, 1, none⟩ (.int .u64 (c : Int)) = w10 at *
  go_wp2
  go_ret2
  have h11 := HE10.out.set 7 (sum s f t c) (set_sum _ _ _)
  exact ⟨g, h11.nN, rfl, h11.row, h11.below⟩
end Rec
end Go.Proofs.YtilolepbfmcbgaaGreatDoor
/- Decode, walked. -/
namespace Go.Proofs.YtilolepbfmcbgaaGreatDoor
open Go.RowKit Go.MapKept
namespace Rec
open Lin

/-- a record, all noughts if there is none -/
def gv : Option (Nat × Nat × Nat × Nat) → Value
  | some (s, f, t, c) => .agg #[.int .i64 (s : Int), .int .i64 (f : Int), .int .i64 (t : Int), .int .i64 (c : Int)]
  | none => .agg #[.int .i64 0, .int .i64 0, .int .i64 0, .int .i64 0]

theorem split_yes (w : World) (N : Nat) (hN : w.heap.size = N) (x : Nat) (h : x < 18446744073709551616) : Calls Tryz.prog 153 #[.int .u64 (x : Int), .slice (some ⟨N, 0, none⟩) 4 4] (w.alloc (.cells #[.int .i64 16, .int .i64 16, .int .i64 16, .int .i64 16] 3)) fun e w' => ∃ (b o gc : Nat), e = .returned (.tuple #[.slice (some ⟨b, o, none⟩) 4 gc, .bool true]) ∧ (b < w'.heap.size ∧ w'.cell? ⟨b, o + 1, none⟩ = some (.int .u64 ((x / 65536 % 65536 : Nat) : Int)) ∧ w'.cell? ⟨b, o + 2, none⟩ = some (.int .u64 ((x / 4294967296 % 65536 : Nat) : Int)) ∧ w'.cell? ⟨b, o + 3, none⟩ = some (.int .u64 ((x / 281474976710656 : Nat) : Int))) ∧ Below w.heap.size w w' := by
  subst hN
  refine (Pack.split_any x h _ 4 _ (nts_four w)).mono ?_
  rintro e w' ⟨G, gc, rfl, hw, hb⟩
  have hb0 := (Below.refl w.heap.size w).alloc (Nat.le_refl _) (.cells #[.int .i64 16, .int .i64 16, .int .i64 16, .int .i64 16] 3)
  rw [split_nums h] at hw ⊢
  simp only [Option.getD_some] at hw
  obtain ⟨b, o, rfl, hlt, hc1⟩ := hw.at' 1 (by simp)
  obtain ⟨b', o', e, _, hc2⟩ := hw.at' 2 (by simp)
  injection e with e
  injection e with e1 e2
  subst e1 e2
  obtain ⟨b', o', e, _, hc3⟩ := hw.at' 3 (by simp)
  injection e with e
  injection e with e1 e2
  subst e1 e2
  exact ⟨b, o, gc, rfl, ⟨hlt, hc1, hc2, hc3⟩, hb0.trans (hb.mono hb0.size)⟩

section
variable {w : World}
end
end Rec
end Go.Proofs.YtilolepbfmcbgaaGreatDoor
/- The document's Encode. -/
namespace Go.Proofs.YtilolepbfmcbgaaGreatDoor
open Go.RowKit Go.MapKept
namespace Rec
open Lin

theorem front_new (w : World) (s f t c : Nat) (hs : s < 65536) (hf : f < 65536) (ht : t < 65536) (hc : c < 18446744073709551616) : Crc.Wds (w.alloc (.cells #[.int .u64 ((nums s f t : Nat) : Int), .int .u64 (c : Int), .int .u64 0, .int .u64 0, .int .u64 0, .int .u64 0, .int .u64 0] 121)) (some ⟨w.heap.size, 0, none⟩) (front s f t c) :=
  ⟨front_u64 hs hf ht hc, by rw [front_len]; omega, fun j hj => ⟨w.heap.size, 0, rfl, by simp, by
    rw [World.cell?_alloc_mark, Nat.zero_add]
    have : j < 7 := hj
    match j, this with
    | 0, _ => rfl
    | 1, _ => rfl
    | 2, _ => rfl
    | 3, _ => rfl
    | 4, _ => rfl
    | 5, _ => rfl
    | 6, _ => rfl⟩⟩

end Rec
end Go.Proofs.YtilolepbfmcbgaaGreatDoor
/- The document's decoding. -/
namespace Go.Proofs.YtilolepbfmcbgaaGreatDoor
open Go.RowKit Go.MapKept
namespace Rec
open Lin

section
variable {w : World}

theorem take_all {l : List Nat} {j : Nat} (hlt : j < l.length) : (l.take (j + 1)).all (fun x => x == 0) = ((l.take j).all (fun x => x == 0) && (l[j] == 0)) := by
  rw [List.take_succ_eq_append_getElem hlt, List.all_append]
  simp

end
end Rec
end Go.Proofs.YtilolepbfmcbgaaGreatDoor
/- The chapter's example; RecordEncodes, walked. -/
namespace Go.Proofs.YtilolepbfmcbgaaGreatDoor
open Go.RowKit Go.MapKept
namespace Rec
open Lin

theorem nums_ex : nums 2 3 4 = 1125912791875585 := by decide
theorem may_ex : may ((2 : Nat) : Int) ((3 : Nat) : Int) ((4 : Nat) : Int) ((5 : Nat) : Int) = true := by decide

set_option maxHeartbeats 1000000 in
theorem lives_any (w : World) : Calls Tryz.prog 108 #[] w fun r w' => r = .returned (.bool true) ∧ Below w.heap.size w w' := by
  have he : Calls Tryz.prog 149 #[.agg #[.int .i64 2, .int .i64 3, .int .i64 4, .int .i64 5]] w fun r w' => ∃ g : Nat, w.heap.size ≤ g ∧ r = .returned (.tuple #[.slice (some ⟨g, 0, none⟩) 8 8, .int .i64 0]) ∧ w'.rowIs g 121 8 (rowOf (ln 2 3 4 5)) ∧ Below w.heap.size w w' := encode_yes w 2 3 4 5 may_ex
  have HE := Lib.hid he
  have H2 := Lib.hid Crc.lives_any
  have H3 := Lib.hid Pack.lives_any
  clear he
  go_enter Tryz.func108, Tryz.ntmps108
  go_wp2_with fail
  refine HE.out.mono ?_
  rintro e w0 ⟨g, _, rfl, hrow, hb⟩
  have HR1 := Lib.hid hrow
  have HB1 := Lib.hid hb
  clear hrow hb HE
  go_wp2_with fail
  refine (H2.out _).mono ?_
  rintro e w2 ⟨rfl, hb⟩
  have HR2 := Lib.hid (row_keep HR1.out hb)
  have HB2 := Lib.hid (HB1.out.trans (hb.mono HB1.out.size))
  clear hb HR1 HB1
  go_wp2_with fail
  refine (H3.out _).mono ?_
  rintro e w3 ⟨rfl, hb⟩
  have HR3 := Lib.hid (row_keep HR2.out hb)
  have HB3 := Lib.hid (HB2.out.trans (hb.mono HB2.out.size))
  clear hb HR2 HB2
  have hc1 : w3.cell? ⟨g, 0, none⟩ = some (.int .u64 1125912791875585) := by
    rw [HR3.out.cell (i := 0) (by omega)]
    show some (Value.int .u64 ((nums 2 3 4 : Nat) : Int)) = _
    rw [nums_ex]
    rfl
  go_wp2
  go_ret
  exact ⟨rfl, HB3.out⟩

end Rec
end Go.Proofs.YtilolepbfmcbgaaGreatDoor
/- Law 15's example, and its open. -/
namespace Go.Proofs.YtilolepbfmcbgaaGreatDoor
open Go.RowKit Go.MapKept
namespace Vol

theorem gn3 : gn 3 = 4 := rfl
theorem gs0 : gs 0 = 64 := rfl
theorem may_ex : Slo.may ((0 : Nat) : Int) ((1 : Nat) : Int) (Slo.nx 65535) = true := by decide

set_option maxHeartbeats 4000000 in
set_option maxRecDepth 100000 in
theorem lives_any (w : World) (hT : Bm.Tab w) : Calls Tryz.prog 69 #[] w fun r w' => r = .returned (.bool true) ∧ Below w.heap.size w w' := by
  have HT := Lib.hid hT
  obtain ⟨sl, bm, bk, E, hpl⟩ := pl_any 3 3 0
  have HD := Lib.hid (rdev_any w 3 3 0 (by omega) (by omega) (by omega) none 0 (ws := []) (Pack.wds_nil w none) hpl)
  have HL5 := Lib.hid (fun w => Sup.lives_any w)
  have HL6 := Lib.hid (fun w => Ino.lives_any w)
  have HL7 := Lib.hid (fun w => Slo.lives_any w)
  have HL9 := Lib.hid (fun w => Rec.lives_any w)
  have HP := Lib.hid hpl
  clear hT hpl
  go_enter Tryz.func69, Tryz.ntmps69
  go_wp2_with fail
  refine HD.out.mono ?_
  rintro r w1 ⟨a, g, gc, B, rfl, h1, h2, h3, h4, hup, hwd, hb⟩
  have HU := Lib.hid hup
  have HB := Lib.hid hb
  have HN := Lib.hid (show w.heap.size ≤ B ∧ B ≤ w1.heap.size from ⟨h1, h3⟩)
  clear h1 h2 h3 h4 hup hwd hb HD
  have hbv := (Below.refl w1.heap.size w1).alloc (Nat.le_refl _) (.cells (dv (gn 3) (gn 3) (gs 0) sl bm bk E (.slice (some ⟨g, 0, none⟩) E gc)) 30)
  have HU2 := Lib.hid (HU.out.keep hbv)
  have HB2 := Lib.hid (HB.out.trans (hbv.mono HB.out.size))
  clear hbv HU HB
  unfold dv at HU2 HB2 ⊢
  go_wp2_with fail
  generalize w1.alloc (.cells #[.int .i64 (gn 3 : Nat), .int .i64 (gn 3 : Nat), .int .i64 (gs 0 : Nat), .int .i64 16, .int .i64 (sl : Int), .int .i64 (bm : Int), .int .i64 (bk : Int), .int .i64 (E : Int), .slice (some ⟨g, 0, none⟩) E gc] 30) = w2 at *
  refine (HL5.out _).mono ?_
  rintro r w3 ⟨rfl, hb⟩
  have HU3 := Lib.hid (HU2.out.keep hb)
  have HB3 := Lib.hid (HB2.out.trans (hb.mono HB2.out.size))
  clear hb HU2 HB2 HL5
  go_wp2_with fail
  refine (HL6.out _).mono ?_
  rintro r w4 ⟨rfl, hb⟩
  have HU4 := Lib.hid (HU3.out.keep hb)
  have HB4 := Lib.hid (HB3.out.trans (hb.mono HB3.out.size))
  clear hb HU3 HB3 HL6
  go_wp2_with fail
  refine (HL7.out _).mono ?_
  rintro r w5 ⟨rfl, hb⟩
  have HU5 := Lib.hid (HU4.out.keep hb)
  have HB5 := Lib.hid (HB4.out.trans (hb.mono HB4.out.size))
  clear hb HU4 HB4 HL7
  go_wp2_with fail
  refine (HL9.out _).mono ?_
  rintro r w6 ⟨rfl, hb⟩
  have HU6 := Lib.hid (HU5.out.keep hb)
  have HB6 := Lib.hid (HB5.out.trans (hb.mono HB5.out.size))
  clear hb HU5 HB5 HL9
  have HL10 := Lib.hid (Bm.lives_any w6 (HT.out.below HB6.out HT.out.lt))
  go_wp2_with fail
  refine HL10.out.mono ?_
  rintro r w7 ⟨rfl, hb⟩
  have HU7 := Lib.hid (HU6.out.keep hb)
  have HB7 := Lib.hid (HB6.out.trans (hb.mono HB6.out.size))
  clear hb HU6 HB6 HL10
  have HOP := Lib.hid (open_any HU7.out HP.out.may (by rw [rawW_len HP.out]; exact HP.out.e4.symm) (rawW_read HP.out))
  go_wp2_with fail
  refine HOP.out.mono ?_
  rintro r w8 ⟨vb, rfl, hvb, hvo, hb⟩
  have HV8 := Lib.hid (hvo.sub (Q' := fun k => k < B ∨ k = vb) (fun k hk => by
    rcases hk with hk | rfl
    · exact .inl hk
    · exact .inr ⟨hvb, hvo.lt⟩) (.inr rfl))
  have HB8 := Lib.hid (HB7.out.trans (hb.mono HB7.out.size))
  clear hvb hvo hb HOP HU7 HB7
  have HSS := Lib.hid (setSlot_yes HV8.out 0 0 1 65535 (-1) (by decide) (by decide) may_ex (by omega))
  go_wp2_with fail
  refine HSS.out.mono ?_
  rintro r w9 ⟨rfl, hv9, hk⟩
  have HV9 := Lib.hid hv9
  have HB9 := Lib.hid (HB8.out.trans (hk.below HB8.out.size (fun k hk => .inl (Nat.lt_of_lt_of_le hk HN.out.1))))
  clear hv9 hk HSS HV8 HB8
  have HST := Lib.hid (up_steps HV9.out.up)
  have HSN := Lib.hid (up_stores HV9.out.up)
  go_wp2_with fail
  refine HST.out.mono ?_
  rintro r w' ⟨rfl, rfl⟩
  go_wp2_with fail
  refine HSN.out.mono ?_
  rintro r w' ⟨rfl, rfl⟩
  go_wp2
  go_ret
  exact ⟨rfl, HB9.out⟩
end Vol
end Go.Proofs.YtilolepbfmcbgaaGreatDoor
/- Law 15's open, wrote, still. -/
namespace Go.Proofs.YtilolepbfmcbgaaGreatDoor
open Go.RowKit Go.MapKept
namespace Vol

/-- what open leaves: the volume, and the document's words, in blocks of Q -/
structure Ov (w w' : World) (Q : Nat → Prop) (vb a g gc n m s E : Nat) (W : List Nat) : Prop where
  vo : Vo Q w' vb a n m s W 0 0
  qg : Q g
  ql : ∀ k, k < w.heap.size → Q k
  wds : Pack.Wds w' (some ⟨g, 0, none⟩) W
  cap : E ≤ gc
  below : Below w.heap.size w w'
  len : W.length = E

theorem Vo.put {Q : Nat → Prop} {w : World} {vb a n m s : Nat} {W : List Nat} {st sn : Nat} (h : Vo Q w vb a n m s W st sn) {p : Addr} (hp : Q p.block) (hne : vb ≠ p.block) (v : Value) : Vo Q (w.setCell p v) vb a n m s W st sn :=
  ⟨(Below.heap_setCell _ _ _ _ hne).trans h.vol, h.q, h.up.put hp v, h.may, h.len⟩

section
variable {sl bm bk E : Nat} {ws : List Nat}
end
end Vol
end Go.Proofs.YtilolepbfmcbgaaGreatDoor
/- What may be written: within, runOf, mayWrite. -/
namespace Go.Proofs.YtilolepbfmcbgaaGreatDoor
open Go.RowKit Go.MapKept
namespace Chn

/-! A map of numbers that were met. -/
/-- the map's entry of a number, the i-th -/
def kent (i : Nat) (k : Int) : MapEntry := ⟨.int .i64 k, .bool true, i⟩
def kents (l : List Int) : List MapEntry := l.mapIdx kent
theorem kents_snoc (l : List Int) (k : Int) : kents (l ++ [k]) = kents l ++ [kent l.length k] := by
  unfold kents
  rw [List.mapIdx_append]
  simp
theorem mem_kents {l : List Int} {e : MapEntry} (h : e ∈ kents l) : ∃ i k, k ∈ l ∧ e = kent i k := by
  unfold kents at h
  obtain ⟨i, hi, rfl⟩ := List.mem_mapIdx.1 h
  exact ⟨i, l[i], List.getElem_mem hi, rfl⟩
theorem find_none (s : Int) : ∀ (es : List MapEntry) (i : Nat), (∀ e ∈ es, ∃ j t, t ≠ s ∧ e = kent j t) → Instr.findNow (.int .i64) (.int .i64 s) es i = some none
  | [], _, _ => rfl
  | e :: r, i, h => by
    obtain ⟨j, t, ht, rfl⟩ := h e (List.mem_cons_self ..)
    have hne : (s == t) = false := by simp; exact fun e => ht e.symm
    simp only [Instr.findNow, kent, Instr.sameNow, if_true, hne]
    exact find_none s r (i + 1) (fun e he => h e (List.mem_cons_of_mem _ he))
theorem find_some (s : Int) : ∀ (es : List MapEntry) (i : Nat), (∀ e ∈ es, ∃ j t, e = kent j t) → (∃ j, kent j s ∈ es) → ∃ k, Instr.findNow (.int .i64) (.int .i64 s) es i = some (some (k, .bool true))
  | [], _, _, h => by
    obtain ⟨j, h⟩ := h
    simp at h
  | e :: r, i, h, hx => by
    obtain ⟨j, t, rfl⟩ := h e (List.mem_cons_self ..)
    by_cases ht : s = t
    · subst ht
      exact ⟨i, by simp [Instr.findNow, kent, Instr.sameNow]⟩
    · have hne : (s == t) = false := by simp; exact ht
      obtain ⟨j', hj⟩ := hx
      obtain ⟨k, hk⟩ := find_some s r (i + 1) (fun e he => h e (List.mem_cons_of_mem _ he)) ⟨j', by
        rcases List.mem_cons.1 hj with h1 | h1
        · simp [kent] at h1
          exact absurd h1.1 ht
        · exact h1⟩
      refine ⟨k, ?_⟩
      simp only [Instr.findNow, kent, Instr.sameNow, if_true, hne]
      exact hk
/-- the world with another map in block b -/
def putMap (w : World) (b : Nat) (es : List MapEntry) (c : Nat) : World := { w with heap := w.heap.setIfInBounds b (.map es.toArray c) }
theorem putMap_at {w : World} {b c : Nat} {es : List MapEntry} (hb : b < w.heap.size) : (putMap w b es c).heap[b]? = some (.map es.toArray c) := by simp [putMap, hb]
theorem putMap_below {w0 w : World} {N b c : Nat} {es : List MapEntry} (h : Below N w0 w) (hb : N ≤ b) : Below N w0 (putMap w b es c) :=
  h.trans ⟨rfl, rfl, rfl, by simp [putMap], fun k hk => by
    have : b ≠ k := by omega
    simp [putMap, this]⟩
theorem isKey (k : Int) : IsKey (.int .i64) (.int .i64 k) := by simp [IsKey]
theorem zero_bool (w : World) : (zeroValue 4).run Tryz.prog w = .ok (.bool false) w := by kernel_rfl
section
variable {w : World} {b c : Nat} {l : List Int} {s : Int}
theorem run_look_no (hb : w.heap[b]? = some (.map (kents l).toArray c)) (hs : s ∉ l) : (Instr.lookup 213 (.map (some b)) (.int .i64 s) false).run Tryz.prog w = .ok (.bool false) w := by
  have hf := find_none s (kents l) 0 (fun e he => by
    obtain ⟨i, t, ht, rfl⟩ := mem_kents he
    exact ⟨i, t, fun h => hs (h ▸ ht), rfl⟩)
  simp [Instr.lookup, run_underlying Tryz.underlying213, MapKept.run_getObj_map hb, run_checkKey Tryz.underlying3 (isKey s), run_findKey Tryz.underlying3 hf, Result.andThen]
theorem run_look_yes (hb : w.heap[b]? = some (.map (kents l).toArray c)) (hs : s ∈ l) : (Instr.lookup 213 (.map (some b)) (.int .i64 s) false).run Tryz.prog w = .ok (.bool true) w := by
  obtain ⟨k, hf⟩ := find_some s (kents l) 0 (fun e he => by
    obtain ⟨i, t, _, rfl⟩ := mem_kents he
    exact ⟨i, t, rfl⟩) (by
    obtain ⟨i, hi, rfl⟩ := List.getElem_of_mem hs
    exact ⟨i, by
      unfold kents
      exact List.mem_mapIdx.2 ⟨i, hi, rfl⟩⟩)
  simp only [Instr.lookup, Sem.run_bind, run_underlying Tryz.underlying213, Result.andThen, MapKept.run_getObj_map hb, Sem.run_pure, run_checkKey Tryz.underlying3 (isKey s), run_findKey Tryz.underlying3 hf]
  rfl
theorem run_put (hb : w.heap[b]? = some (.map (kents l).toArray l.length)) (hs : s ∉ l) : (Instr.mapUpdate 213 (.map (some b)) (.int .i64 s) (.bool true)).run Tryz.prog w = .ok () (putMap w b (kents (l ++ [s])) (l.length + 1)) := by
  have hf := find_none s (kents l) 0 (fun e he => by
    obtain ⟨i, t, ht, rfl⟩ := mem_kents he
    exact ⟨i, t, fun h => hs (h ▸ ht), rfl⟩)
  simp only [Instr.mapUpdate, Sem.run_bind, run_underlying Tryz.underlying213, Result.andThen, MapKept.run_getObj_map hb, run_checkKey Tryz.underlying3 (isKey s), run_findKey Tryz.underlying3 hf, run_setObj_map _ hb]
  simp [putMap, kents_snoc, kent]
end

/-! Runs as they are handed in. -/
/-- pairs of ints as they lie -/
structure Prs (w : World) (A : Option Addr) (l : List (Int × Int)) : Prop where
  i64 : ∀ r ∈ l, (-9223372036854775808 ≤ r.1 ∧ r.1 ≤ 9223372036854775807) ∧ (-9223372036854775808 ≤ r.2 ∧ r.2 ≤ 9223372036854775807)
  len : l.length ≤ 9223372036854775807
  at' : ∀ j (h : j < l.length), ∃ b o, A = some ⟨b, o, none⟩ ∧ b < w.heap.size ∧ w.cell? ⟨b, o + j * 2, none⟩ = some (.int .i64 l[j].1) ∧ w.cell? ⟨b, o + j * 2 + 1, none⟩ = some (.int .i64 l[j].2)
theorem Prs.keep {w w' : World} {A : Option Addr} {l : List (Int × Int)} (h : Prs w A l) (hb : Below w.heap.size w w') : Prs w' A l :=
  ⟨h.i64, h.len, fun j hj => by
    obtain ⟨b, o, e, hlt, hc, hd⟩ := h.at' j hj
    exact ⟨b, o, e, Nat.lt_of_lt_of_le hlt hb.size, (hb.cell (p := ⟨b, o + j * 2, none⟩) hlt).trans hc, (hb.cell (p := ⟨b, o + j * 2 + 1, none⟩) hlt).trans hd⟩⟩

/-- a run has blocks, all of them of so many -/
def win (n : Nat) (x c : Int) : Bool := decide (1 ≤ c ∧ 0 ≤ x ∧ x ≤ (n : Int) - c)
theorem runOf_any (w : World) (x c q : Int) : Calls Tryz.prog 114 #[.agg #[.int .i64 x, .int .i64 c, .int .i64 q]] w fun r w' => r = .returned (.agg #[.int .i64 x, .int .i64 c]) ∧ Below w.heap.size w w' := by
  go_enter Tryz.func114, Tryz.ntmps114
  go_wp2
  refine bodyPost_ret (v := .agg #[.int .i64 x, .int .i64 c]) ?_ rfl ⟨rfl, ?_⟩
  · simp [results, Tryz.results114, go_sem]
  · first
    | exact ((Below.refl _ _).alloc (Nat.le_refl _) _).alloc (by simp) _
    | exact (Below.refl _ _).alloc (Nat.le_refl _) _
set_option maxHeartbeats 1000000 in
theorem within_any (w : World) (n : Nat) (x c : Int) (hn : n ≤ 1000000) (hc : c ≤ 9223372036854775807) : Calls Tryz.prog 113 #[.int .i64 (n : Int), .agg #[.int .i64 x, .int .i64 c]] w fun r w' => r = .returned (.bool (win n x c)) ∧ Below w.heap.size w w' := by
  have HW := Lib.hid (show win n x c = decide (1 ≤ c ∧ 0 ≤ x ∧ x ≤ (n : Int) - c) from rfl)
  generalize win n x c = r at *
  go_enter Tryz.func113, Tryz.ntmps113
  go_wp2_with fail
  all_goals have hr := HW.out
  all_goals first
    | rw [decide_eq_false (by omega)] at hr
    | rw [show decide (1 ≤ c ∧ 0 ≤ x ∧ x ≤ (n : Int) - c) = decide (x ≤ (n : Int) - c) from decide_eq_decide.2 (by omega)] at hr
  all_goals subst hr
  all_goals go_ret
  all_goals exact ⟨rfl, (Below.refl _ _).alloc (Nat.le_refl _) _⟩

/-- may a chain of these slots and runs be, of so many blocks? -/
def MayW (n : Nat) (ss : List Int) (rs : List (Int × Int)) : Prop := ss.length = rs.length ∧ (∀ s ∈ ss, 0 ≤ s ∧ s < (n : Int)) ∧ ss.Nodup ∧ ∀ r ∈ rs, win n r.1 r.2 = true
instance (n : Nat) (ss : List Int) (rs : List (Int × Int)) : Decidable (MayW n ss rs) := inferInstanceAs (Decidable (_ ∧ _ ∧ _ ∧ _))
def mayW (n : Nat) (ss : List Int) (rs : List (Int × Int)) : Bool := decide (MayW n ss rs)

/-- so far all may be -/
structure Good (n : Nat) (ss : List Int) (rs : List (Int × Int)) (m : Nat) : Prop where
  slot : ∀ s ∈ ss.take m, 0 ≤ s ∧ s < (n : Int)
  once : (ss.take m).Nodup
  run : ∀ r ∈ rs.take m, win n r.1 r.2 = true
theorem Good.zero (n : Nat) (ss : List Int) (rs : List (Int × Int)) : Good n ss rs 0 := ⟨fun s h => by simp at h, by simp, fun r h => by simp at h⟩
theorem Good.next {n : Nat} {ss : List Int} {rs : List (Int × Int)} {m : Nat} (h : Good n ss rs m) (hs : m < ss.length) (hr : m < rs.length) (h0 : 0 ≤ ss[m]) (h1 : ss[m] < (n : Int)) (h2 : ss[m] ∉ ss.take m) (h3 : win n rs[m].1 rs[m].2 = true) : Good n ss rs (m + 1) := by
  refine ⟨fun s k => ?_, ?_, fun r k => ?_⟩
  · rw [List.take_succ_eq_append_getElem hs, List.mem_append] at k
    rcases k with k | k
    · exact h.slot s k
    · obtain rfl : s = ss[m] := by simpa using k
      exact ⟨h0, h1⟩
  · rw [List.take_succ_eq_append_getElem hs, List.nodup_append]
    refine ⟨h.once, by simp, fun a ha b hb => ?_⟩
    obtain rfl : b = ss[m] := by simpa using hb
    exact fun e => h2 (e ▸ ha)
  · rw [List.take_succ_eq_append_getElem hr, List.mem_append] at k
    rcases k with k | k
    · exact h.run r k
    · obtain rfl : r = rs[m] := by simpa using k
      exact h3
theorem Good.all {n : Nat} {ss : List Int} {rs : List (Int × Int)} (h : Good n ss rs ss.length) (hl : ss.length = rs.length) : mayW n ss rs = true := by
  obtain ⟨h1, h2, h3⟩ := h
  rw [List.take_length] at h1 h2
  rw [hl, List.take_length] at h3
  exact decide_eq_true ⟨hl, h1, h2, h3⟩
theorem bad {n : Nat} {ss : List Int} {rs : List (Int × Int)} {m : Nat} (hs : m < ss.length) (hr : m < rs.length) (h : ss[m] < 0 ∨ (n : Int) ≤ ss[m] ∨ ss[m] ∈ ss.take m ∨ win n rs[m].1 rs[m].2 = false) : mayW n ss rs = false := by
  refine decide_eq_false (fun ⟨_, h1, h2, h3⟩ => ?_)
  rcases h with h | h | h | h
  · have := h1 _ (List.getElem_mem hs); omega
  · have := h1 _ (List.getElem_mem hs); omega
  · have e : ss.take (m + 1) <+: ss := List.take_prefix _ _
    have h4 := h2.sublist e.sublist
    rw [List.take_succ_eq_append_getElem hs, List.nodup_append] at h4
    exact h4.2.2 _ h _ (by simp) rfl
  · have := h3 _ (List.getElem_mem hr)
    rw [h] at this
    cases this

set_option maxHeartbeats 2000000 in
set_option maxRecDepth 100000 in
theorem mayWrite_any (w : World) (n : Nat) (hn : n ≤ 1000000) (A B : Option Addr) (c d : Nat) (ss : List Int) (rs : List (Int × Int)) (hs : Pack.Nts w A ss) (hr : Prs w B rs) :
    Calls Tryz.prog 110 #[.int .i64 (n : Int), .slice A ss.length c, .slice B rs.length d] w fun r w' => r = .returned (.bool (mayW n ss rs)) ∧ Below w.heap.size w w' := by
  obtain ⟨M, hM⟩ : ∃ M, M = mayW n ss rs := ⟨_, rfl⟩
  rw [← hM]
  have HM := Lib.hid hM
  have HS := Lib.hid hs
  have HR := Lib.hid hr
  have hsl := hs.len
  have hrl := hr.len
  have HWI := Lib.hid (fun w x c hc => within_any w n x c hn hc)
  have hmm := @run_makeMap Tryz.prog
  clear hM hs hr
  go_enter Tryz.func110, Tryz.ntmps110
  by_cases hlen : ss.length = rs.length
  · go_wp2
    clear hmm
    have HL := Lib.hid hlen
    clear hlen
    go_loopw [18] (fun i wr => ∃ m : Nat, m ≤ ss.length ∧ i = .int .i64 (m : Int) ∧ wr.heap[w.heap.size]? = some (.map (kents (ss.take m)).toArray m) ∧ Good n ss rs m ∧ Below w.heap.size w wr) (fun i _ => ss.length - (intOf i).toNat)
    case atStart => exact ⟨0, Nat.zero_le _, rfl, by simpa [kents] using (heap_alloc w (.map #[] 0)).1, Good.zero .., (Below.refl _ _).alloc (Nat.le_refl _) _⟩
    case round =>
      obtain ⟨m, hm, rfl, hmap, hgd, hb⟩ := hrel
      have HMP := Lib.hid hmap
      have HG := Lib.hid hgd
      have HB := Lib.hid hb
      have hwr : w.heap.size < wr.heap.size := (Array.getElem?_eq_some_iff.1 hmap).1
      clear hmap hgd
      by_cases hlt : m < ss.length
      · have hlr : m < rs.length := by have := HL.out; omega
        obtain ⟨b, o, rfl, hbb, hc0⟩ := HS.out.at' m hlt
        obtain ⟨b2, o2, rfl, hbb2, hd0, hd1⟩ := HR.out.at' m hlr
        have hc0 := (hb.cell (p := ⟨b, o + m, none⟩) hbb).trans hc0
        have hd0 := (hb.cell (p := ⟨b2, o2 + m * 2, none⟩) hbb2).trans hd0
        have hd1 := (hb.cell (p := ⟨b2, o2 + m * 2 + 1, none⟩) hbb2).trans hd1
        have hbb := Nat.lt_of_lt_of_le hbb hb.size
        have hbb2 := Nat.lt_of_lt_of_le hbb2 hb.size
        have HI := Lib.hid (HR.out.i64 rs[m] (List.getElem_mem hlr))
        have HBAD := Lib.hid (fun h => show mayW n ss rs = false from bad (n := n) hlt hlr h)
        have HNX := Lib.hid (HG.out.next hlt hlr)
        have HT := Lib.hid (show ss.take (m + 1) = ss.take m ++ [ss[m]] from List.take_succ_eq_append_getElem hlt)
        have HTL := Lib.hid (show (ss.take m).length = m by rw [List.length_take]; omega)
        obtain ⟨s, hs⟩ : ∃ s, s = ss[m] := ⟨_, rfl⟩
        obtain ⟨x, hx⟩ : ∃ x, x = rs[m].1 := ⟨_, rfl⟩
        obtain ⟨y, hy⟩ : ∃ y, y = rs[m].2 := ⟨_, rfl⟩
        rw [← hs] at hc0 HBAD HNX HT
        rw [← hx] at hd0 HI HBAD HNX
        rw [← hy] at hd1 HI HBAD HNX
        clear hs hx hy hb
        rcases Int.lt_or_le s 0 with h0 | h0
        · have HN := Lib.hid (show M = false by rw [HM.out]; exact HBAD.out (.inl h0))
          go_wp2
          go_ret
          exact ⟨by rw [HN.out]; rfl, HB.out⟩
        rcases Int.lt_or_le s (n : Int) with h1 | h1
        · by_cases h2 : s ∈ ss.take m
          · have HN := Lib.hid (show M = false by rw [HM.out]; exact HBAD.out (.inr (.inr (.inl h2))))
            have hlk := run_look_yes HMP.out h2
            clear h2
            go_wp2
            go_ret
            exact ⟨by rw [HN.out]; rfl, HB.out⟩
          · have hlk := run_look_no HMP.out h2
            have HNO := Lib.hid h2
            have HC := Lib.hid (HWI.out wr x y HI.out.2.2)
            cases hw : win n x y with
            | false =>
              have HN := Lib.hid (show M = false by rw [HM.out]; exact HBAD.out (.inr (.inr (.inr hw))))
              rw [hw] at HC
              clear hw h2
              go_wp2_with fail
              refine HC.out.mono ?_
              rintro e w2 ⟨rfl, hb2⟩
              have HB2 := Lib.hid (HB.out.trans (hb2.mono HB.out.size))
              clear hb2 HC
              go_wp2
              go_ret
              exact ⟨by rw [HN.out]; rfl, HB2.out⟩
            | true =>
              have HGN := Lib.hid (HNX.out h0 h1 h2 hw)
              rw [hw] at HC
              clear hw h2
              go_wp2_with fail
              refine HC.out.mono ?_
              rintro e w2 ⟨rfl, hb2⟩
              have hmp : w2.heap[w.heap.size]? = some (.map (kents (ss.take m)).toArray (ss.take m).length) := by rw [HTL.out]; exact (hb2.block _ hwr).trans HMP.out
              have hpt := run_put hmp HNO.out
              rw [HTL.out, ← HT.out] at hpt
              have HB2 := Lib.hid (HB.out.trans (hb2.mono HB.out.size))
              have hw2 : w.heap.size < w2.heap.size := Nat.lt_of_lt_of_le hwr hb2.size
              have HAT := Lib.hid (putMap_at (c := m + 1) (es := kents (ss.take (m + 1))) hw2)
              have HPB := Lib.hid (putMap_below (c := m + 1) (es := kents (ss.take (m + 1))) HB2.out (Nat.le_refl w.heap.size))
              clear hb2 HC hmp HNO
              go_wp2
              refine ⟨⟨m + 1, by omega, by go_num, HAT.out, HGN.out, HPB.out⟩, by simp [intOf]; omega⟩
        · have HN := Lib.hid (show M = false by rw [HM.out]; exact HBAD.out (.inr (.inl h1)))
          go_wp2
          go_ret
          exact ⟨by rw [HN.out]; rfl, HB.out⟩
      · obtain rfl : m = ss.length := by omega
        have HN := Lib.hid (show M = true by rw [HM.out]; exact HG.out.all HL.out)
        have hnl : decide ((ss.length : Int) < (rs.length : Int)) = false := decide_eq_false (by have := HL.out; omega)
        have hnl2 : ¬ (ss.length : Int) < (rs.length : Int) := by have := HL.out; omega
        clear hb hlt hm
        go_wp2
        go_ret
        exact ⟨by rw [HN.out]; rfl, HB.out⟩
  · have HN := Lib.hid (show M = false by rw [HM.out]; exact decide_eq_false (fun h => hlen h.1))
    have hne : ((ss.length : Int) != (rs.length : Int)) = true := by simp; omega
    have hne2 : ¬ (ss.length : Int) = (rs.length : Int) := by omega
    clear hlen
    go_wp2
    go_ret
    exact ⟨by rw [HN.out]; rfl, Below.refl _ _⟩
end Chn
end Go.Proofs.YtilolepbfmcbgaaGreatDoor
/- Chains, of no program: slots from a number on, each with the next one's number; a chain that comes back to a slot of its own never ends. -/
namespace Go.Proofs.YtilolepbfmcbgaaGreatDoor
namespace Chn

/-- a part: its slot's number, where it starts, how many blocks, the next one's number as it is written -/
structure Pt where
  s : Nat
  x : Nat
  c : Nat
  q : Nat

/-- the part of a number, of so many blocks: f tells a slot's word -/
def pat (f : Nat → Option (Nat × Nat × Nat)) (n : Nat) (i : Int) : Option Pt :=
  if 0 ≤ i ∧ i < (n : Int) then
    match f i.toNat with
    | none => none
    | some t => if t.1 + t.2.1 ≤ n then some ⟨i.toNat, t.1, t.2.1, t.2.2⟩ else none
  else none
theorem pat_out {f : Nat → Option (Nat × Nat × Nat)} {n : Nat} {i : Int} (h : i < 0 ∨ (n : Int) ≤ i) : pat f n i = none := if_neg (by omega)
theorem pat_none {f : Nat → Option (Nat × Nat × Nat)} {n i : Nat} (h : f i = none) : pat f n (i : Int) = none := by
  unfold pat
  split
  · rw [Int.toNat_natCast, h]
  · rfl
theorem pat_far {f : Nat → Option (Nat × Nat × Nat)} {n i x c q : Nat} (h : f i = some (x, c, q)) (hn : n < x + c) : pat f n (i : Int) = none := by
  unfold pat
  split
  · rw [Int.toNat_natCast, h]
    exact if_neg (by simp only; omega)
  · rfl
theorem pat_yes {f : Nat → Option (Nat × Nat × Nat)} {n i x c q : Nat} (h : f i = some (x, c, q)) (hi : i < n) (hn : x + c ≤ n) : pat f n (i : Int) = some ⟨i, x, c, q⟩ := by
  unfold pat
  rw [if_pos (by omega), Int.toNat_natCast, h]
  exact if_pos hn
theorem pat_some {f : Nat → Option (Nat × Nat × Nat)} {n : Nat} {i : Int} {p : Pt} (h : pat f n i = some p) : i = (p.s : Int) ∧ p.s < n ∧ f p.s = some (p.x, p.c, p.q) ∧ p.x + p.c ≤ n := by
  unfold pat at h
  split at h
  case isFalse => cases h
  case isTrue hi =>
    split at h
    · cases h
    · rename_i t ht
      split at h
      · injection h with h
        subst h
        exact ⟨by simp only; omega, by simp only; omega, ht, by assumption⟩
      · cases h

section
variable {P : Int → Option Pt}
/-- from h on these parts follow one another, and s is next -/
def Path (P : Int → Option Pt) : Int → List Pt → Int → Prop
  | h, [], s => h = s
  | h, p :: l, s => h ≠ -1 ∧ P h = some p ∧ Path P (Slo.nx p.q) l s
theorem path_append : ∀ {l1 l2 : List Pt} {h s : Int}, Path P h (l1 ++ l2) s ↔ ∃ t, Path P h l1 t ∧ Path P t l2 s
  | [], l2, h, s => ⟨fun k => ⟨h, rfl, k⟩, fun ⟨t, e, k⟩ => by cases e; exact k⟩
  | p :: l1, l2, h, s => by
    constructor
    · rintro ⟨h1, h2, h3⟩
      obtain ⟨t, k1, k2⟩ := path_append.1 h3
      exact ⟨t, ⟨h1, h2, k1⟩, k2⟩
    · rintro ⟨t, ⟨h1, h2, h3⟩, k⟩
      exact ⟨h1, h2, path_append.2 ⟨t, h3, k⟩⟩
theorem path_snoc {l : List Pt} {h s : Int} {p : Pt} (k : Path P h l s) (hs : s ≠ -1) (hp : P s = some p) : Path P h (l ++ [p]) (Slo.nx p.q) :=
  path_append.2 ⟨s, k, hs, hp, rfl⟩
/-- what goes on from a path is one's own -/
theorem path_go : ∀ {l r : List Pt} {h s : Int}, Path P h l s → Path P h r (-1) → ∃ r', r = l ++ r' ∧ Path P s r' (-1)
  | [], r, h, s, k, m => ⟨r, rfl, by cases k; exact m⟩
  | p :: l, [], h, s, k, m => absurd m k.1
  | p :: l, p' :: r, h, s, k, m => by
    obtain ⟨k1, k2, k3⟩ := k
    obtain ⟨m1, m2, m3⟩ := m
    rw [k2] at m2
    injection m2 with m2
    subst m2
    obtain ⟨r', e, h'⟩ := path_go k3 m3
    exact ⟨r', by rw [e]; rfl, h'⟩
theorem path_one {r r' : List Pt} {h : Int} (k : Path P h r (-1)) (m : Path P h r' (-1)) : r = r' := by
  obtain ⟨r2, e, m2⟩ := path_go k m
  cases r2 with
  | nil => rw [e, List.append_nil]
  | cons p r2 => exact absurd rfl m2.1
/-- what comes back to where it began doesn't end -/
theorem path_round {l r : List Pt} {h : Int} (k : Path P h l h) (hl : l ≠ []) : ¬ Path P h r (-1) := by
  intro m
  obtain ⟨r', e, m'⟩ := path_go k m
  have := congrArg List.length (path_one m m')
  have h2 := congrArg List.length e
  rw [List.length_append] at h2
  have h3 := List.length_pos_iff.2 hl
  omega

/-- the chain from s on, of k slots at most -/
def rd (P : Int → Option Pt) : Nat → Int → Option (List Pt)
  | k, s => if s = -1 then some [] else
    match k with
    | 0 => none
    | k + 1 => match P s with
      | none => none
      | some p => (rd P k (Slo.nx p.q)).map (p :: ·)
theorem rd_iff : ∀ {k : Nat} {s : Int} {r : List Pt}, rd P k s = some r ↔ Path P s r (-1) ∧ r.length ≤ k
  | 0, s, r => by
    unfold rd
    by_cases hs : s = -1
    · rw [if_pos hs]
      constructor
      · intro h; injection h with h; subst h; exact ⟨hs, Nat.le_refl _⟩
      · rintro ⟨h, _⟩
        cases r with
        | nil => rfl
        | cons p r => exact absurd hs h.1
    · rw [if_neg hs]
      constructor
      · intro h; cases h
      · rintro ⟨h, h2⟩
        obtain rfl : r = [] := List.length_eq_zero_iff.1 (by omega)
        exact absurd h hs
  | k + 1, s, r => by
    unfold rd
    by_cases hs : s = -1
    · rw [if_pos hs]
      constructor
      · intro h; injection h with h; subst h; exact ⟨hs, Nat.zero_le _⟩
      · rintro ⟨h, _⟩
        cases r with
        | nil => rfl
        | cons p r => exact absurd hs h.1
    · rw [if_neg hs]
      simp only
      cases hp : P s with
      | none =>
        constructor
        · intro h; cases h
        · rintro ⟨h, _⟩
          cases r with
          | nil => exact absurd h hs
          | cons p r => have := h.2.1; rw [hp] at this; cases this
      | some p =>
        simp only
        constructor
        · intro h
          obtain ⟨r', hr, rfl⟩ := Option.map_eq_some_iff.1 h
          obtain ⟨h1, h2⟩ := rd_iff.1 hr
          exact ⟨⟨hs, hp, h1⟩, by simp; omega⟩
        · rintro ⟨h, h2⟩
          cases r with
          | nil => exact absurd h hs
          | cons p' r =>
            obtain ⟨h3, h4, h5⟩ := h
            rw [hp] at h4
            injection h4 with h4
            subst h4
            exact Option.map_eq_some_iff.2 ⟨r, rd_iff.2 ⟨h5, by simpa using h2⟩, rfl⟩
theorem rd_none {k : Nat} {s : Int} (h : ∀ r, Path P s r (-1) → r.length ≤ k → False) : rd P k s = none := by
  cases e : rd P k s with
  | none => rfl
  | some r => exact (h r (rd_iff.1 e).1 (rd_iff.1 e).2).elim
/-- so many are met, and it is to go on -/
theorem rd_full {n : Nat} {l : List Pt} {h s : Int} (k : Path P h l s) (hs : s ≠ -1) (hl : l.length = n) : rd P n h = none :=
  rd_none fun r hr hn => by
    obtain ⟨r', e, m⟩ := path_go k hr
    cases r' with
    | nil => exact hs m
    | cons p r' => rw [e, List.length_append, List.length_cons] at hn; omega
/-- there is none of that number -/
theorem rd_stop {n : Nat} {l : List Pt} {h s : Int} (k : Path P h l s) (hs : s ≠ -1) (hp : P s = none) : rd P n h = none :=
  rd_none fun r hr _ => by
    obtain ⟨r', e, m⟩ := path_go k hr
    cases r' with
    | nil => exact hs m
    | cons p r' => have := m.2.1; rw [hp] at this; cases this
end

section
variable {f : Nat → Option (Nat × Nat × Nat)} {n : Nat}
theorem path_head {l : List Pt} {h s : Int} {p : Pt} (k : Path (pat f n) h (p :: l) s) : h = (p.s : Int) := (pat_some k.2.1).1
theorem path_mem : ∀ {l : List Pt} {h s : Int}, Path (pat f n) h l s → ∀ p ∈ l, p.s < n ∧ f p.s = some (p.x, p.c, p.q) ∧ p.x + p.c ≤ n
  | [], _, _, _, p, hp => by cases hp
  | p :: l, h, s, k, p', hp => by
    rcases List.mem_cons.1 hp with e | hp
    · subst e
      obtain ⟨_, h2⟩ := pat_some k.2.1
      exact h2
    · exact path_mem k.2.2 p' hp
/-- from one of its own on -/
theorem path_at {l : List Pt} {h s : Int} (k : Path (pat f n) h l s) {i : Nat} (hi : i < l.length) : Path (pat f n) h (l.take i) ((l[i].s : Nat) : Int) ∧ Path (pat f n) ((l[i].s : Nat) : Int) (l.drop i) s := by
  have e : l = l.take i ++ l.drop i := (List.take_append_drop i l).symm
  have k2 := k
  rw [e] at k2
  obtain ⟨t, k3, k4⟩ := path_append.1 k2
  rw [List.drop_eq_getElem_cons hi] at k4
  obtain rfl := path_head k4
  exact ⟨k3, by rw [List.drop_eq_getElem_cons hi]; exact k4⟩
/-- what comes back to one of its own doesn't end -/
theorem path_back {l : List Pt} {h s : Int} (k : Path (pat f n) h l s) {p : Pt} (hp : p ∈ l) (e : s = (p.s : Int)) {r : List Pt} : ¬ Path (pat f n) h r (-1) := by
  intro m
  obtain ⟨i, hi, rfl⟩ := List.mem_iff_getElem.1 hp
  obtain ⟨k1, k2⟩ := path_at k hi
  obtain ⟨r', _, m'⟩ := path_go k1 m
  rw [e] at k2
  exact path_round k2 (by intro h0; have := congrArg List.length h0; simp at this; omega) m'
theorem rd_back {l : List Pt} {h s : Int} (k : Path (pat f n) h l s) {p : Pt} (hp : p ∈ l) (e : s = (p.s : Int)) (j : Nat) : rd (pat f n) j h = none :=
  rd_none fun _ hr _ => path_back k hp e hr
/-- a chain has no slot twice -/
theorem path_nodup : ∀ {r : List Pt} {h : Int}, Path (pat f n) h r (-1) → (r.map Pt.s).Nodup
  | [], _, _ => List.nodup_nil
  | p :: l, h, k => by
    rw [List.map_cons, List.nodup_cons]
    refine ⟨fun hm => ?_, path_nodup k.2.2⟩
    obtain ⟨p', hp', e⟩ := List.mem_map.1 hm
    obtain ⟨i, hi, rfl⟩ := List.mem_iff_getElem.1 hp'
    obtain ⟨k1, _⟩ := path_at k.2.2 hi
    have k3 : Path (pat f n) h (p :: l.take i) h := ⟨k.1, k.2.1, by rw [path_head k, ← e]; exact k1⟩
    exact path_round k3 (by simp) k
theorem few_slots {l : List Pt} (h : ∀ p ∈ l, p.s < n) (hn : (l.map Pt.s).Nodup) : l.length ≤ n := by
  have := List.Nodup.length_le_of_subset (l₁ := l.map Pt.s) (l₂ := List.range n) hn (fun x hx => by
    obtain ⟨p, hp, rfl⟩ := List.mem_map.1 hx
    exact List.mem_range.2 (h p hp))
  simpa using this
theorem path_len {r : List Pt} {h : Int} (k : Path (pat f n) h r (-1)) : r.length ≤ n := few_slots (fun p hp => (path_mem k p hp).1) (path_nodup k)
theorem rd_yes {r : List Pt} {h : Int} (k : Path (pat f n) h r (-1)) : rd (pat f n) n h = some r := rd_iff.2 ⟨k, path_len k⟩
theorem path_last : ∀ {r : List Pt} {h : Int}, Path (pat f n) h r (-1) → ∀ {i : Nat} (hi : i < r.length), i + 1 = r.length → Slo.nx r[i].q = -1
  | [], _, _, i, hi, _ => by simp at hi
  | [p], _, k, i, hi, _ => by
    obtain rfl : i = 0 := by simp at hi; omega
    exact k.2.2
  | p :: p' :: l, _, k, i, hi, e => by
    cases i with
    | zero => simp at e
    | succ i => exact path_last k.2.2 (i := i) (by simpa using hi) (by simpa using e)
end
end Chn
end Go.Proofs.YtilolepbfmcbgaaGreatDoor
/- What a chain's writing leaves of a device's words, of no program: the last slot first. -/
namespace Go.Proofs.YtilolepbfmcbgaaGreatDoor
namespace Chn

/-- slots and runs that may be a chain's -/
structure Wr (n : Nat) (S : List Nat) (R : List (Nat × Nat)) : Prop where
  n64 : n ≤ 65534
  len : R.length = S.length
  slot : ∀ s ∈ S, s < n
  once : S.Nodup
  run : ∀ r ∈ R, 1 ≤ r.2 ∧ r.1 + r.2 ≤ n
theorem Wr.few {n : Nat} {S : List Nat} {R : List (Nat × Nat)} (h : Wr n S R) : S.length ≤ n := by
  have := List.Nodup.length_le_of_subset (l₁ := S) (l₂ := List.range n) h.once (fun x hx => List.mem_range.2 (h.slot x hx))
  simpa using this
theorem wr_of {n : Nat} (hn : n ≤ 65534) {ss : List Int} {rs : List (Int × Int)} (h : mayW n ss rs = true) : ∃ S R, ss = S.map Int.ofNat ∧ rs = R.map (fun r : Nat × Nat => ((r.1 : Int), (r.2 : Int))) ∧ Wr n S R := by
  obtain ⟨h1, h2, h3, h4⟩ := of_decide_eq_true h
  have e1 : ss = (ss.map Int.toNat).map Int.ofNat := by
    rw [List.map_map]
    conv => lhs; rw [← List.map_id ss]
    refine List.map_congr_left (fun s hs => ?_)
    have := h2 s hs
    simp only [Function.comp_apply, id_eq, Int.ofNat_eq_natCast]
    omega
  have e2 : rs = (rs.map (fun r => (r.1.toNat, r.2.toNat))).map (fun r : Nat × Nat => ((r.1 : Int), (r.2 : Int))) := by
    rw [List.map_map]
    conv => lhs; rw [← List.map_id rs]
    refine List.map_congr_left (fun r hr => ?_)
    have := of_decide_eq_true (h4 r hr)
    obtain ⟨x, y⟩ := r
    simp only [Function.comp_apply, id_eq] at this ⊢
    rw [Prod.mk.injEq]
    omega
  refine ⟨_, _, e1, e2, hn, by simp [h1], fun s hs => ?_, ?_, fun r hr => ?_⟩
  · obtain ⟨i, hi, rfl⟩ := List.mem_map.1 hs
    have := h2 i hi
    omega
  · rw [e1] at h3
    exact List.Pairwise.of_map Int.ofNat (fun a b hab e => hab (by rw [e])) h3
  · obtain ⟨q, hq, rfl⟩ := List.mem_map.1 hr
    have := of_decide_eq_true (h4 q hq)
    simp only
    omega
theorem may_of {n : Nat} {S : List Nat} {R : List (Nat × Nat)} (h : Wr n S R) : mayW n (S.map Int.ofNat) (R.map (fun r : Nat × Nat => ((r.1 : Int), (r.2 : Int)))) = true := by
  refine decide_eq_true ⟨by simp [h.len], fun s hs => ?_, ?_, fun r hr => ?_⟩
  · obtain ⟨i, hi, rfl⟩ := List.mem_map.1 hs
    have := h.slot i hi
    simp only [Int.ofNat_eq_natCast]
    omega
  · exact List.Pairwise.map Int.ofNat (fun a b hab e => hab (Int.ofNat.inj e)) h.once
  · obtain ⟨q, hq, rfl⟩ := List.mem_map.1 hr
    have := h.run q hq
    exact decide_eq_true (by simp only; omega)

/-- the k-th part -/
def pk (S : List Nat) (R : List (Nat × Nat)) (k : Nat) : Pt := ⟨S[k]?.getD 0, (R[k]?.getD (0, 0)).1, (R[k]?.getD (0, 0)).2, S[k + 1]?.getD 65535⟩
/-- its word -/
def pw (p : Pt) : Nat := Slo.wd p.x p.c p.q
/-- the words behind so many rounds: the last slot first -/
def wk (W : List Nat) (b : Nat) (S : List Nat) (R : List (Nat × Nat)) : Nat → List Nat
  | 0 => W
  | k + 1 => (wk W b S R k).set (b + (pk S R (S.length - 1 - k)).s) (pw (pk S R (S.length - 1 - k)))
theorem wk_len (W : List Nat) (b : Nat) (S : List Nat) (R : List (Nat × Nat)) : ∀ k, (wk W b S R k).length = W.length
  | 0 => rfl
  | k + 1 => by unfold wk; rw [List.length_set, wk_len W b S R k]
section
variable {W : List Nat} {b n : Nat} {S : List Nat} {R : List (Nat × Nat)}
theorem pk_s {k : Nat} (hk : k < S.length) : (pk S R k).s = S[k] := by simp [pk, hk]
theorem pk_may (h : Wr n S R) {k : Nat} (hk : k < S.length) : (1 ≤ (pk S R k).c ∧ (pk S R k).x + (pk S R k).c ≤ n) ∧ ((pk S R k).q < n ∨ (pk S R k).q = 65535) ∧ Slo.may (pk S R k).x (pk S R k).c (Slo.nx (pk S R k).q) = true := by
  have hr : k < R.length := by rw [h.len]; exact hk
  have h1 := h.run R[k] (List.getElem_mem hr)
  have e1 : (pk S R k).x = R[k].1 := by simp [pk, hr]
  have e2 : (pk S R k).c = R[k].2 := by simp [pk, hr]
  have h2 : (pk S R k).q < n ∨ (pk S R k).q = 65535 := by
    unfold pk
    simp only
    rcases Nat.lt_or_ge (k + 1) S.length with h3 | h3
    · rw [List.getElem?_eq_getElem h3, Option.getD_some]
      exact .inl (h.slot _ (List.getElem_mem h3))
    · rw [List.getElem?_eq_none h3]
      exact .inr rfl
  have h64 := h.n64
  refine ⟨by rw [e1, e2]; exact h1, h2, Slo.may_iff.2 ?_⟩
  rw [e1, e2]
  generalize (pk S R k).q = q at *
  unfold Slo.May Slo.nx
  split <;> omega
/-- a word of a slot that is written -/
theorem wk_at (h : Wr n S R) (hW : b + n ≤ W.length) : ∀ {k : Nat}, k ≤ S.length → ∀ {j : Nat} (hj : j < S.length), S.length - k ≤ j → (wk W b S R k)[b + S[j]]?.getD 0 = pw (pk S R j)
  | 0, _, j, hj, h1 => by omega
  | k + 1, hk, j, hj, h1 => by
    have hi : S.length - 1 - k < S.length := by omega
    have hs := h.slot S[j] (List.getElem_mem hj)
    unfold wk
    rw [pk_s hi]
    by_cases e : j = S.length - 1 - k
    · subst e
      rw [List.getElem?_set_self (by rw [wk_len]; omega), Option.getD_some]
    · have hne : S[S.length - 1 - k] ≠ S[j] := fun e2 => e ((List.getElem_inj h.once).1 e2).symm
      rw [List.getElem?_set_ne (by omega)]
      exact wk_at h hW (by omega) hj (by omega)
/-- no other word changes -/
theorem wk_else (h : Wr n S R) {i : Nat} (hi : ∀ s ∈ S, i ≠ b + s) : ∀ {k : Nat}, k ≤ S.length → (wk W b S R k)[i]? = W[i]?
  | 0, _ => rfl
  | k + 1, hk => by
    have hl : S.length - 1 - k < S.length := by omega
    unfold wk
    rw [pk_s hl, List.getElem?_set_ne (fun e => hi _ (List.getElem_mem hl) e.symm)]
    exact wk_else h hi (by omega)
/-- the number with which the chain from the k-th slot on begins -/
def hd (S : List Nat) (k : Nat) : Int := Slo.nx (S[k]?.getD 65535)
theorem hd_some (h : Wr n S R) {k : Nat} (hk : k < S.length) : hd S k = (S[k] : Int) := by
  unfold hd
  rw [List.getElem?_eq_getElem hk, Option.getD_some]
  exact Slo.nx_some (by have := h.slot S[k] (List.getElem_mem hk); have := h.n64; omega)
theorem hd_none {k : Nat} (hk : S.length ≤ k) : hd S k = -1 := by
  unfold hd
  rw [List.getElem?_eq_none hk]
  rfl
/-- a chain of what is read: the words of a row from b on -/
def fw (W : List Nat) (b i : Nat) : Option (Nat × Nat × Nat) := Slo.dec (W[b + i]?.getD 0)
theorem wk_path (h : Wr n S R) (hW : b + n ≤ W.length) : ∀ {k : Nat}, k ≤ S.length → Path (pat (fw (wk W b S R S.length) b) n) (hd S (S.length - k)) ((List.range' (S.length - k) k).map (pk S R)) (-1)
  | 0, _ => hd_none (Nat.le_refl _)
  | k + 1, hk => by
    have hi : S.length - (k + 1) < S.length := by omega
    have hs := h.slot S[S.length - (k + 1)] (List.getElem_mem hi)
    obtain ⟨⟨m1, m2⟩, m3, m4⟩ := pk_may h hi
    rw [List.range'_succ, List.map_cons, show S.length - (k + 1) + 1 = S.length - k by omega, hd_some h hi]
    refine ⟨by omega, ?_, ?_⟩
    · have hw : fw (wk W b S R S.length) b S[S.length - (k + 1)] = some ((pk S R (S.length - (k + 1))).x, (pk S R (S.length - (k + 1))).c, (pk S R (S.length - (k + 1))).q) := by
        unfold fw
        rw [wk_at h hW (Nat.le_refl _) hi (by omega)]
        exact Slo.dec_wd m4
      rw [pat_yes hw hs m2]
      congr 1
      have e := pk_s (R := R) hi
      generalize pk S R (S.length - (k + 1)) = p at *
      obtain ⟨a1, a2, a3, a4⟩ := p
      simp only at e
      subst e
      rfl
    · have e : Slo.nx (pk S R (S.length - (k + 1))).q = hd S (S.length - k) := by
        unfold pk hd
        simp only
        rw [show S.length - (k + 1) + 1 = S.length - k by omega]
      rw [e]
      exact wk_path h hW (by omega)
/-- the parts -/
def pts (S : List Nat) (R : List (Nat × Nat)) : List Pt := (List.range' 0 S.length).map (pk S R)
theorem pts_len : (pts S R).length = S.length := by simp [pts]
theorem pts_get {k : Nat} (hk : k < (pts S R).length) : (pts S R)[k] = pk S R k := by simp [pts]
theorem wk_read (h : Wr n S R) (hW : b + n ≤ W.length) : rd (pat (fw (wk W b S R S.length) b) n) n (hd S 0) = some (pts S R) := by
  have := wk_path h hW (Nat.le_refl S.length)
  rw [Nat.sub_self] at this
  exact rd_yes this
end
end Chn
end Go.Proofs.YtilolepbfmcbgaaGreatDoor
/- A chain as it lies in memory: slots' numbers, parts; rows of parts of the call's own. -/
namespace Go.Proofs.YtilolepbfmcbgaaGreatDoor
open Go.RowKit Go.MapKept
namespace Chn

/-- parts as they lie -/
structure Prt (w : World) (A : Option Addr) (l : List Pt) : Prop where
  at' : ∀ j (h : j < l.length), ∃ b o, A = some ⟨b, o, none⟩ ∧ b < w.heap.size ∧ w.cell? ⟨b, o + j * 3, none⟩ = some (.int .i64 (l[j].x : Int)) ∧ w.cell? ⟨b, o + j * 3 + 1, none⟩ = some (.int .i64 (l[j].c : Int)) ∧ w.cell? ⟨b, o + j * 3 + 2, none⟩ = some (.int .i64 (Slo.nx l[j].q))
theorem Prt.keep {w w' : World} {A : Option Addr} {l : List Pt} (h : Prt w A l) (hb : Below w.heap.size w w') : Prt w' A l :=
  ⟨fun j hj => by
    obtain ⟨b, o, e, hlt, hc, hd, he⟩ := h.at' j hj
    exact ⟨b, o, e, Nat.lt_of_lt_of_le hlt hb.size, (hb.cell (p := ⟨b, o + j * 3, none⟩) hlt).trans hc, (hb.cell (p := ⟨b, o + j * 3 + 1, none⟩) hlt).trans hd, (hb.cell (p := ⟨b, o + j * 3 + 2, none⟩) hlt).trans he⟩⟩
/-- parts' cells -/
def pcells (l : List Pt) : List Value := l.flatMap fun p => [.int .i64 (p.x : Int), .int .i64 (p.c : Int), .int .i64 (Slo.nx p.q)]
theorem pcells_snoc (l : List Pt) (p : Pt) : pcells (l ++ [p]) = pcells l ++ [.int .i64 (p.x : Int), .int .i64 (p.c : Int), .int .i64 (Slo.nx p.q)] := by simp [pcells]
theorem pcells_len (l : List Pt) : (pcells l).length = l.length * 3 := by
  induction l with
  | nil => rfl
  | cons p l ih =>
    have e : pcells (p :: l) = [.int .i64 (p.x : Int), .int .i64 (p.c : Int), .int .i64 (Slo.nx p.q)] ++ pcells l := rfl
    rw [e, List.length_append, ih]
    simp; omega
theorem pcells_get {l : List Pt} : ∀ {j : Nat} (h : j < l.length), (pcells l)[j * 3]? = some (.int .i64 (l[j].x : Int)) ∧ (pcells l)[j * 3 + 1]? = some (.int .i64 (l[j].c : Int)) ∧ (pcells l)[j * 3 + 2]? = some (.int .i64 (Slo.nx l[j].q)) := by
  induction l with
  | nil => intro j h; simp at h
  | cons p l ih =>
    intro j h
    cases j with
    | zero => exact ⟨rfl, rfl, rfl⟩
    | succ j =>
      have := ih (j := j) (by simpa using h)
      have e : (j + 1) * 3 = j * 3 + 1 + 1 + 1 := by omega
      rw [e]
      simpa [pcells] using this
theorem own_prt {W : World} {B n c : Nat} {t : TypeId} {G : Option Addr} {l : List Pt} (h : W.ownsRow B t 3 (.slice G n c) n (pcells l)) : Prt W G l ∧ l.length = n := by
  have hl : l.length = n := by
    have := h.1
    rw [pcells_len] at this
    omega
  refine ⟨⟨fun j hj => ?_⟩, hl⟩
  obtain ⟨f0, f1, f2⟩ := pcells_get hj
  rcases h.2 with ⟨e, h0⟩ | ⟨g, cap, cur, e, hB, hh, _, _, _, ht⟩
  · omega
  · injection e with e
    subst e
    have key : ∀ i, i < n * 3 → W.cell? ⟨g, 0 + i, none⟩ = (pcells l)[i]? := fun i hi => by
      have := congrArg (·[i]?) ht
      simp only [List.getElem?_take, hi, if_true] at this
      rw [← this]
      simp [World.cell?, hh]
    have k0 := key (j * 3) (by omega)
    have k1 := key (j * 3 + 1) (by omega)
    have k2 := key (j * 3 + 2) (by omega)
    exact ⟨g, 0, rfl, Pm.lt_of_some hh, k0.trans f0, by rw [Nat.add_assoc]; exact k1.trans f1, by rw [Nat.add_assoc]; exact k2.trans f2⟩
theorem row_slice3 {B n : Nat} {W : World} {e : TypeId} {v : Value} {xs : List Value} (h : W.ownsRow B e 3 v n xs) : ∃ G c, v = .slice G n c := by
  rcases h.2 with ⟨e, h0⟩ | ⟨g, cap, cur, e, _⟩
  · exact ⟨none, 0, by rw [e, h0]⟩
  · exact ⟨_, _, e⟩
theorem row_base_lt3 {w : World} {B s : Nat} {e : TypeId} {n : Nat} {v : Value} {xs : List Value} (h : w.ownsRow B e s v n xs) {g : Nat} (hg : v.ownBlock = some g) : B ≤ g := (World.ownsRow.lt h g hg).1
theorem own_keep3 {w w' : World} {B n s : Nat} {t : TypeId} {v : Value} {xs : List Value} (h : w.ownsRow B t s v n xs) (hb : Below w.heap.size w w') : w'.ownsRow B t s v n xs := by
  have hN : ∀ g, v.ownBlock = some g → g < w.heap.size := fun g hg => (World.ownsRow.lt h g hg).2
  rcases h with ⟨h1, h2⟩
  refine ⟨h1, ?_⟩
  rcases h2 with h0 | ⟨g, cap, cur, e, hB, hh, hr⟩
  · exact .inl h0
  · exact .inr ⟨g, cap, cur, e, hB, (hb.block g (hN g (by rw [e]; rfl))).trans hh, hr⟩
/-- slots' numbers -/
def slots (l : List Pt) : List Int := l.map fun p => (p.s : Int)
theorem slots_snoc (l : List Pt) (p : Pt) : slots (l ++ [p]) = slots l ++ [(p.s : Int)] := by simp [slots]
theorem slots_len (l : List Pt) : (slots l).length = l.length := by simp [slots]
end Chn
end Go.Proofs.YtilolepbfmcbgaaGreatDoor
/- chain.Read. -/
namespace Go.Proofs.YtilolepbfmcbgaaGreatDoor
open Go.RowKit Go.MapKept
namespace Chn
open Vol (Vo Up Kq Hb hb_new hb_grown hb_apart)
theorem run_blocks2 (u v x : Value) (W : World) : (Instr.field 85 (.agg #[u, v, x]) 0).run Tryz.prog W = .ok u W := by kernel_rfl

/-- the boxes and rows of a Read under way -/
structure Rt (w : World) (C : Nat) (l : List Pt) (A : Option Addr) (c : Nat) (B : Option Addr) (d : Nat) (wr : World) : Prop where
  res : Hb wr w.heap.size #[.slice none 0 0, .slice none 0 0] 63
  box : Hb wr C #[.slice A l.length c, .slice B l.length d] 63
  ints : wr.ownsRow w.heap.size 3 1 (.slice A l.length c) l.length (Pack.i64s (slots l))
  prts : wr.ownsRow w.heap.size 74 3 (.slice B l.length d) l.length (pcells l)
  below : Below w.heap.size w wr
theorem Rt.keep {w w1 w2 : World} {C : Nat} {l : List Pt} {A B : Option Addr} {c d : Nat} (h : Rt w C l A c B d w1) (hb : Below w1.heap.size w1 w2) : Rt w C l A c B d w2 :=
  ⟨h.res.keep hb, h.box.keep hb, own_keep3 h.ints hb, own_keep3 h.prts hb, h.below.trans (hb.mono h.below.size)⟩
section
variable {Q : Nat → Prop} {w : World} {vb a n m s : Nat} {W : List Nat} {st sn : Nat}
/-- a row stays where another block is stored to -/
theorem own_far {w : World} {B n s b i : Nat} {e t : TypeId} {v : Value} {xs : List Value} {cs : Array Value} (h : w.ownsRow B e s v n xs) (hb : Hb w b cs t) (ht : e ≠ t) (u : Value) : (w.setCell ⟨b, i, none⟩ u).ownsRow B e s v n xs := by
  rcases h with ⟨h1, h2⟩
  refine ⟨h1, ?_⟩
  rcases h2 with h0 | ⟨g, cap, cur, e2, hB, hh, hr⟩
  · exact .inl h0
  · exact .inr ⟨g, cap, cur, e2, hB, (Below.heap_setCell _ _ _ _ (show g ≠ b from Pm.blk_ne hh hb ht)).trans hh, hr⟩
theorem part_info : (Tryz.prog.info? 74).map (fun i => (i.zero, i.size, i.bytes)) = some (some (.agg #[.int .i64 0, .int .i64 0, .int .i64 0]), 3, 24) := by kernel_rfl
theorem cells_three_new (w : World) (x y z : Value) (t : TypeId) : ∀ j u, [x, y, z][j]? = some u → (w.alloc (.cells #[x, y, z] t)).cell? ((⟨w.heap.size, 0, none⟩ : Addr).add j) = some u := by
  intro j u hj
  match j, hj with
  | 0, hj =>
    simp at hj
    subst hj
    simp [Addr.add]
  | 1, hj =>
    simp at hj
    subst hj
    simp [Addr.add]
  | 2, hj =>
    simp at hj
    subst hj
    simp [Addr.add]
theorem hb_apart3 {w : World} {b : Nat} {cs : Array Value} {t e : TypeId} {B n s : Nat} {v : Value} {xs : List Value} (h : Hb w b cs t) (ho : w.ownsRow B e s v n xs) (ht : e ≠ t) : v.ownBlock ≠ some b := by
  rcases ho.2 with ⟨e1, _⟩ | ⟨g, cap, cur, e1, _, hg, _⟩
  · rw [e1]; simp [Value.ownBlock]
  · rw [e1]
    simp only [Value.ownBlock, ne_eq, Option.some.injEq]
    exact Pm.blk_ne hg h ht
/-- a slice's length -/
def lenOf : Value → Nat
  | .slice _ n _ => n
  | _ => 0
/-- what Read leaves -/
def RdTo (n : Nat) (f : Nat → Option (Nat × Nat × Nat)) (h : Int) (w : World) (r : Ending) (w' : World) : Prop :=
  match rd (pat f n) n h with
  | none => r = .returned (.tuple #[.agg #[.slice none 0 0, .slice none 0 0], .int .i64 2]) ∧ Below w.heap.size w w'
  | some l => ∃ (A : Option Addr) (c : Nat) (B : Option Addr) (d : Nat), r = .returned (.tuple #[.agg #[.slice A l.length c, .slice B l.length d], .int .i64 0]) ∧ Pack.Nts w' A (slots l) ∧ Prt w' B l ∧ l.length ≤ c ∧ l.length ≤ d ∧ Below w.heap.size w w'

theorem row_cap3 {w : World} {B n c : Nat} {e : TypeId} {G : Option Addr} {xs : List Value} {s : Nat} (h : w.ownsRow B e s (.slice G n c) n xs) : n ≤ c := by
  rcases h.2 with ⟨e, h0⟩ | ⟨g, cap, cur, e, _, _, hn, _⟩
  · injection e with e1 e2 e3; omega
  · injection e with e1 e2 e3; omega
theorem RdTo.none {n : Nat} {f : Nat → Option (Nat × Nat × Nat)} {h : Int} {w w' : World} {r : Ending} (hn : rd (pat f n) n h = Option.none) (hr : r = .returned (.tuple #[.agg #[.slice Option.none 0 0, .slice Option.none 0 0], .int .i64 2])) (hb : Below w.heap.size w w') : RdTo n f h w r w' := by
  unfold RdTo
  rw [hn]
  exact ⟨hr, hb⟩
/-- a slice's block is new -/
def New (B : Nat) (A : Option Addr) : Prop := ∀ a, A = Option.some a → B ≤ a.block
theorem own_new {w : World} {B n c s : Nat} {e : TypeId} {G : Option Addr} {xs : List Value} (h : w.ownsRow B e s (.slice G n c) n xs) : New B G := by
  rintro a rfl
  exact row_base_lt3 h rfl
/-- what Read leaves, in new memory -/
def RdN (n : Nat) (f : Nat → Option (Nat × Nat × Nat)) (h : Int) (w : World) (r : Ending) (w' : World) : Prop :=
  match rd (pat f n) n h with
  | none => r = .returned (.tuple #[.agg #[.slice none 0 0, .slice none 0 0], .int .i64 2]) ∧ Below w.heap.size w w'
  | some l => ∃ (A : Option Addr) (c : Nat) (B : Option Addr) (d : Nat), r = .returned (.tuple #[.agg #[.slice A l.length c, .slice B l.length d], .int .i64 0]) ∧ Pack.Nts w' A (slots l) ∧ Prt w' B l ∧ (l.length ≤ c ∧ l.length ≤ d) ∧ (New w.heap.size A ∧ New w.heap.size B) ∧ Below w.heap.size w w'
theorem RdN.none {n : Nat} {f : Nat → Option (Nat × Nat × Nat)} {h : Int} {w w' : World} {r : Ending} (hn : rd (pat f n) n h = Option.none) (hr : r = .returned (.tuple #[.agg #[.slice Option.none 0 0, .slice Option.none 0 0], .int .i64 2])) (hb : Below w.heap.size w w') : RdN n f h w r w' := by
  unfold RdN
  rw [hn]
  exact ⟨hr, hb⟩
theorem RdN.some {n : Nat} {f : Nat → Option (Nat × Nat × Nat)} {h : Int} {w w' : World} {r : Ending} {l : List Pt} {A B : Option Addr} {c d : Nat} (hn : rd (pat f n) n h = Option.some l) (hr : r = .returned (.tuple #[.agg #[.slice A l.length c, .slice B l.length d], .int .i64 0])) (h1 : Pack.Nts w' A (slots l)) (h2 : Prt w' B l) (h3 : l.length ≤ c ∧ l.length ≤ d) (h4 : New w.heap.size A ∧ New w.heap.size B) (hb : Below w.heap.size w w') : RdN n f h w r w' := by
  unfold RdN
  rw [hn]
  exact ⟨A, c, B, d, hr, h1, h2, h3, h4, hb⟩
theorem RdTo.some {n : Nat} {f : Nat → Option (Nat × Nat × Nat)} {h : Int} {w w' : World} {r : Ending} {l : List Pt} {A B : Option Addr} {c d : Nat} (hn : rd (pat f n) n h = Option.some l) (hr : r = .returned (.tuple #[.agg #[.slice A l.length c, .slice B l.length d], .int .i64 0])) (h1 : Pack.Nts w' A (slots l)) (h2 : Prt w' B l) (h3 : l.length ≤ c) (h4 : l.length ≤ d) (hb : Below w.heap.size w w') : RdTo n f h w r w' := by
  unfold RdTo
  rw [hn]
  exact ⟨A, c, B, d, hr, h1, h2, h3, h4, hb⟩

set_option maxHeartbeats 4000000 in
set_option maxRecDepth 100000 in
theorem read_new (h : Vo Q w vb a n m s W st sn) (hd : Int) :
    Calls Tryz.prog 71 #[.pointer (some ⟨vb, 0, none⟩), .int .i64 hd] w (RdN n (fw W (16 + m * 8)) hd w) := by
  have HG := Lib.hid (fun w' (hb : Below w.heap.size w w') => Vol.geometry_any (h.keep hb))
  have HV := Lib.hid h
  have hrf := run_blocks2 (.int .i64 (n : Int)) (.int .i64 (m : Int)) (.int .i64 (s : Int))
  clear h
  go_enter Tryz.func71, Tryz.ntmps71
  go_wp2_with fail
  have hb0 := (Below.refl w.heap.size w).alloc (Nat.le_refl _) (.cells #[.slice none 0 0, .slice none 0 0] 63)
  have HX0 := Lib.hid (hb_new w #[.slice none 0 0, .slice none 0 0] 63)
  have HB0 := Lib.hid hb0
  clear hb0
  generalize w.alloc (.cells #[.slice none 0 0, .slice none 0 0] 63) = w0 at *
  refine (HG.out _ HB0.out).mono ?_
  rintro r w1 ⟨rfl, hb⟩
  have HX1 := Lib.hid (HX0.out.keep hb)
  have HB1 := Lib.hid (HB0.out.trans (hb.mono HB0.out.size))
  clear hb HX0 HB0 HG
  go_wp2_with fail
  have HR := Lib.hid (show Rt w w1.heap.size [] none 0 none 0 (w1.alloc (.cells #[.slice none 0 0, .slice none 0 0] 63)) from
    ⟨HX1.out.keep ((Below.refl _ _).alloc (Nat.le_refl _) _), hb_new w1 _ _, World.ownsRow_nil .., World.ownsRow_nil .., HB1.out.alloc HB1.out.size _⟩)
  generalize hC : w1.heap.size = C at *
  have HCS := Lib.hid (show w.heap.size < C by rw [← hC]; exact HX1.out.lt)
  clear hC HX1 HB1
  go_loopw [8] (fun s' wr => ∃ (sv : Int) (l : List Pt) (A : Option Addr) (c : Nat) (B : Option Addr) (d : Nat), s' = .int .i64 sv ∧ Path (pat (fw W (16 + m * 8)) n) hd l sv ∧ l.length ≤ n ∧ Rt w C l A c B d wr) (fun _ wr => n - ((wr.cell? ⟨C, 0, none⟩).map lenOf).getD 0)
  case atStart => exact ⟨hd, [], none, 0, none, 0, rfl, rfl, Nat.zero_le _, HR.out⟩
  case round =>
    obtain ⟨sv, l, A, c, B, d, rfl, hpath, hln, hrt⟩ := hrel
    have HRT := Lib.hid hrt
    have HPT := Lib.hid hpath
    have b0 := hrt.box.cell 0
    have b1 := hrt.box.cell 1
    have bl := hrt.box.lt
    have bf0 := hrt.box.frozen 0
    have bf1 := hrt.box.frozen 1
    have rl := hrt.res.lt
    have r0 := hrt.res.cell 0
    have r1 := hrt.res.cell 1
    have rf0 := hrt.res.frozen 0
    have rf1 := hrt.res.frozen 1
    clear hrt hpath
    by_cases hs : sv = -1
    · subst hs
      go_wp2
      have hR := HRT.out
      have hB0 := hR.res.set 0 (.slice A l.length c)
      have i1 := own_far (i := 0) hR.ints hR.res (by decide) (.slice A l.length c)
      have p1 := own_far (i := 0) hR.prts hR.res (by decide) (.slice A l.length c)
      have i2 := own_far (i := 1) i1 hB0 (by decide) (.slice B l.length d)
      have p2 := own_far (i := 1) p1 hB0 (by decide) (.slice B l.length d)
      have hmem := path_mem HPT.out
      have hn64 := HV.out.num.1.2
      refine bodyPost_ret (v := .tuple #[.agg #[.slice A l.length c, .slice B l.length d], .int .i64 0]) ?_ rfl (RdN.some (rd_iff.2 ⟨HPT.out, hln⟩) rfl (Pack.own_nts i2 (fun x hx => ?_) (by omega)) (own_prt p2).1 ⟨Pack.row_cap i2, row_cap3 p2⟩ ⟨own_new i2, own_new p2⟩ ?_)
      · simp [results, Tryz.results71, go_sem, r0, r1]
      · obtain ⟨p, hp, rfl⟩ := List.mem_map.1 hx
        have := (hmem p hp).1
        omega
      · exact (hR.below.setCell (p := ⟨w.heap.size, 0, none⟩) (Nat.le_refl _) _).setCell (p := ⟨w.heap.size, 1, none⟩) (Nat.le_refl _) _
    · have hsb : (sv != -1) = true := by simp [hs]
      by_cases hlen : l.length = n
      · have HN := Lib.hid (rd_full HPT.out hs hlen)
        have hR := HRT.out
        have HBE := Lib.hid hR.below
        clear hR
        go_wp2
        refine bodyPost_ret (v := .tuple #[.agg #[.slice none 0 0, .slice none 0 0], .int .i64 2]) ?_ rfl (RdN.none HN.out rfl ?_)
        · simp [results, Tryz.results71, go_sem, r0, r1]
        · exact (HBE.out.setCell (p := ⟨w.heap.size, 0, none⟩) (Nat.le_refl _) _).setCell (p := ⟨w.heap.size, 1, none⟩) (Nat.le_refl _) _
      · have hls : ((l.length : Int) == (n : Int)) = false := beq_eq_false_iff_ne.2 (by omega)
        by_cases hin : 0 ≤ sv ∧ sv < (n : Int)
        · obtain ⟨i, rfl⟩ := Int.eq_ofNat_of_zero_le hin.1
          have hil : i < n := by omega
          have hsl := fun w' (hb : Below w.heap.size w w') => Vol.slot_yes (HV.out.keep hb) i hil
          have HFW := Lib.hid (show fw W (16 + m * 8) i = Slo.dec (W[16 + m * 8 + i]?.getD 0) from rfl)
          generalize Slo.dec (W[16 + m * 8 + i]?.getD 0) = dc at *
          cases dc with
          | none =>
            have HN := Lib.hid (rd_stop (n := n) HPT.out hs (pat_none HFW.out))
            simp only [Slo.gv, Slo.ev] at hsl
            have HS := Lib.hid hsl
            clear hsl
            go_wp2_with fail
            refine (HS.out _ HRT.out.below).mono ?_
            rintro r w2 ⟨rfl, hb2⟩
            have HRT2 := Lib.hid ((HRT.out.keep hb2).keep ((Below.refl w2.heap.size w2).alloc (Nat.le_refl _) (.cells #[.int .i64 0, .int .i64 0, .int .i64 0] 74)))
            have HP2 := Lib.hid (hb_new w2 #[.int .i64 0, .int .i64 0, .int .i64 0] 74)
            have r02 := HRT2.out.res.cell 0
            have r12 := HRT2.out.res.cell 1
            have rl2 := HRT2.out.res.lt
            have rf02 := HRT2.out.res.frozen 0
            have rf12 := HRT2.out.res.frozen 1
            have HBE := Lib.hid HRT2.out.below
            clear hb2 HS r0 r1 rl rf0 rf1 b0 b1 bl bf0 bf1
            go_wp2
            generalize w2.alloc (.cells #[.int .i64 0, .int .i64 0, .int .i64 0] 74) = w3 at *
            refine bodyPost_ret (v := .tuple #[.agg #[.slice none 0 0, .slice none 0 0], .int .i64 2]) ?_ rfl (RdN.none HN.out rfl ?_)
            · simp [results, Tryz.results71, go_sem, r02, r12]
            · exact (HBE.out.setCell (p := ⟨w.heap.size, 0, none⟩) (Nat.le_refl _) _).setCell (p := ⟨w.heap.size, 1, none⟩) (Nat.le_refl _) _
          | some t =>
            obtain ⟨x, y, q⟩ := t
            simp only [Slo.gv, Slo.ev] at hsl
            have HS := Lib.hid hsl
            have hmy := Slo.may_lt (Slo.dec_some HFW.out).1
            have HWI := Lib.hid (fun w => within_any w n (x : Int) (y : Int) (by have := HV.out.num.1.2; omega) (by omega))
            have HRO := Lib.hid (fun w => runOf_any w (x : Int) (y : Int) (Slo.nx q))
            have HWN := Lib.hid (show win n (x : Int) (y : Int) = decide (x + y ≤ n) from decide_eq_decide.2 (by omega))
            obtain ⟨z, hz⟩ : ∃ z, z = Slo.nx q := ⟨_, rfl⟩
            have HZ := Lib.hid hz
            rw [← hz] at HS HRO
            clear hsl hz
            by_cases hxy : x + y ≤ n
            · have HPN := Lib.hid (path_snoc HPT.out hs (pat_yes (n := n) HFW.out hil hxy))
              rw [HWN.out, decide_eq_true hxy] at HWI
              clear HWN
              obtain ⟨j1, hj1, hj2, hj3, hj4⟩ := info_parts Pack.int_info
              obtain ⟨k1, hk1, hk2, hk3, hk4⟩ := info_parts part_info
              have hn64 := HV.out.num.1.2
              go_wp2_with fail
              refine (HS.out _ HRT.out.below).mono ?_
              rintro r w2 ⟨rfl, hb2⟩
              have HRT2 := Lib.hid ((HRT.out.keep hb2).keep ((Below.refl w2.heap.size w2).alloc (Nat.le_refl _) (.cells #[.int .i64 (x : Int), .int .i64 (y : Int), .int .i64 z] 74)))
              have HP2 := Lib.hid (hb_new w2 #[.int .i64 (x : Int), .int .i64 (y : Int), .int .i64 z] 74)
              have HPR := Lib.hid (show w.heap.size ≤ w2.heap.size from Nat.le_trans HRT.out.below.size hb2.size)
              have HPB := Lib.hid (show (Value.slice B l.length d).ownBlock ≠ some w2.heap.size from fun hg => by have := (World.ownsRow.lt HRT.out.prts _ hg).2; have := hb2.size; omega)
              clear hb2 HS r0 r1 rl rf0 rf1 b0 b1 bl bf0 bf1
              go_wp2_with fail
              generalize hw3 : w2.alloc (.cells #[.int .i64 (x : Int), .int .i64 (y : Int), .int .i64 z] 74) = w3 at *
              clear hw3
              generalize w2.heap.size = pb at *
              refine (HRO.out _).mono ?_
              rintro r w4 ⟨rfl, hb4⟩
              have HRT4 := Lib.hid (HRT2.out.keep hb4)
              have HP4 := Lib.hid (HP2.out.keep hb4)
              clear hb4 HRT2 HP2
              go_wp2_with fail
              refine (HWI.out _).mono ?_
              rintro r w5 ⟨rfl, hb5⟩
              have HRT5 := Lib.hid (HRT4.out.keep hb5)
              have HP5 := Lib.hid (HP4.out.keep hb5)
              clear hb5 HRT4 HP4
              have b05 := HRT5.out.box.cell 0
              have b15 := HRT5.out.box.cell 1
              have bl5 := HRT5.out.box.lt
              have bs5 := HRT5.out.below.size
              have HI5 := Lib.hid (HRT5.out.ints.alloc (.cells #[.int .i64 (i : Int)] 3))
              go_wp2_with (first
              | (at_builtin
                 refine wpList_append_own_at _ rfl (.tmp 40) (.tmp 42) 50 rfl w.heap.size 3 j1 (.int .i64 0) 1 8 Tryz.underlying50 hj1 hj2 hj3 hj4 rfl (by decide) (.slice A l.length c) l.length (Pack.i64s (slots l)) rfl HI5.out ⟨w5.heap.size, 0, none⟩ 1 1 [.int .i64 (i : Int)] rfl rfl (cell_one_new _ _ _) (by simp [Value.oneCell']) (by unfold maxLen; omega) (by omega) (by simp; omega) ?_
                 intro v6 w6 hown6 hgr6 _ hat6
                 obtain ⟨G6, c6, rfl⟩ := Pack.row_slice hown6
                 have hal := (Below.refl w5.heap.size w5).alloc (Nat.le_refl _) (.cells #[.int .i64 (i : Int)] 3)
                 have hr6 := hb_grown (HRT5.out.res.keep hal) hgr6 (hb_apart HRT5.out.res HRT5.out.ints (by decide))
                 have hb6 := hb_grown (HRT5.out.box.keep hal) hgr6 (hb_apart HRT5.out.box HRT5.out.ints (by decide))
                 have hp6 := hb_grown (HP5.out.keep hal) hgr6 (hb_apart HP5.out HRT5.out.ints (by decide))
                 have hq6 := (HRT5.out.prts.alloc (.cells #[.int .i64 (i : Int)] 3)).kept hgr6 (Pack.rows_apart HRT5.out.prts HRT5.out.ints (by decide))
                 have hbl6 := (HRT5.out.below.alloc HRT5.out.below.size (.cells #[.int .i64 (i : Int)] 3)).grown hgr6 (by simp; omega) (fun k hk => row_base_lt3 HRT5.out.ints hk)
                 have hcp : ¬ C = pb := Pm.blk_ne hb6 hp6 (by decide)
                 have hcr : ¬ C = w.heap.size := by have := HCS.out; omega
                 have HR7 := Lib.hid (hr6.far (p := ⟨C, 0, none⟩) (fun e => hcr e.symm) (.slice G6 (l.length + 1) c6))
                 have HB7 := Lib.hid (hb6.set 0 (.slice G6 (l.length + 1) c6))
                 have HP7 := Lib.hid (hp6.far (p := ⟨C, 0, none⟩) (fun e => hcp e.symm) (.slice G6 (l.length + 1) c6))
                 have HI7 := Lib.hid (own_far (i := 0) hown6 hb6 (by decide) (.slice G6 (l.length + 1) c6))
                 have HQ7 := Lib.hid (own_far (i := 0) hq6 hb6 (by decide) (.slice G6 (l.length + 1) c6))
                 have HBL7 := Lib.hid (hbl6.setCell (p := ⟨C, 0, none⟩) (by show w.heap.size ≤ C; have := HCS.out; omega) (.slice G6 (l.length + 1) c6))
                 have b06 := hb6.cell 0
                 have b16 := hb6.cell 1
                 have f06 := hb6.frozen 0
                 have bl6 := hb6.lt
                 have q06 := hp6.cell 0
                 have q16 := hp6.cell 1
                 have q26 := hp6.cell 2
                 have hz7 : (w6.setCell ⟨C, 0, none⟩ (.slice G6 (l.length + 1) c6)).heap.size = w6.heap.size := by simp [World.setCell]
                 have hn7 := cells_three_new (w6.setCell ⟨C, 0, none⟩ (.slice G6 (l.length + 1) c6)) (.int .i64 (x : Int)) (.int .i64 (y : Int)) (.int .i64 z) 74
                 rw [hz7] at hn7
                 have HN7 := Lib.hid hn7
                 have HQ8 := Lib.hid (HQ7.out.alloc (.cells #[.int .i64 (x : Int), .int .i64 (y : Int), .int .i64 z] 74))
                 have bs6 : w.heap.size ≤ w6.heap.size := by have := HBL7.out.size; omega
                 clear hown6 hgr6 hat6 hal hr6 hb6 hp6 hq6 hbl6 hn7 hz7)
              | (at_builtin
                 refine wpList_append_own_at _ rfl (.tmp 46) (.tmp 48) 61 rfl w.heap.size 74 k1 (.agg #[.int .i64 0, .int .i64 0, .int .i64 0]) 3 24 Tryz.underlying61 hk1 hk2 hk3 hk4 rfl (by decide) (.slice B l.length d) l.length (pcells l) rfl HQ8.out ⟨w6.heap.size, 0, none⟩ 1 1 [.int .i64 (x : Int), .int .i64 (y : Int), .int .i64 z] rfl rfl HN7.out (by simp [Value.oneCell']) (by unfold maxLen; omega) (by omega) (by simp [World.setCell]; omega) ?_
                 intro v8 w8 hown8 hgr8 _ hat8
                 obtain ⟨G8, d8, rfl⟩ := row_slice3 hown8
                 have hal := (Below.refl (w6.setCell ⟨C, 0, none⟩ (.slice G6 (l.length + 1) c6)).heap.size (w6.setCell ⟨C, 0, none⟩ (.slice G6 (l.length + 1) c6))).alloc (Nat.le_refl _) (.cells #[.int .i64 (x : Int), .int .i64 (y : Int), .int .i64 z] 74)
                 have hr8 := hb_grown (HR7.out.keep hal) hgr8 (hb_apart3 HR7.out HQ7.out (by decide))
                 have hb8 := hb_grown (HB7.out.keep hal) hgr8 (hb_apart3 HB7.out HQ7.out (by decide))
                 have hp8 := hb_grown (HP7.out.keep hal) hgr8 HPB.out
                 have hi8 := (HI7.out.alloc (.cells #[.int .i64 (x : Int), .int .i64 (y : Int), .int .i64 z] 74)).kept hgr8 (Pack.rows_apart HI7.out HQ7.out (by decide))
                 have hbl8 := (HBL7.out.alloc HBL7.out.size (.cells #[.int .i64 (x : Int), .int .i64 (y : Int), .int .i64 z] 74)).grown hgr8 (by simp [World.setCell]; omega) (fun k hk => row_base_lt3 HQ7.out hk)
                 have HR9 := Lib.hid (hr8.far (p := ⟨C, 1, none⟩) (fun e => hcr e.symm) (.slice G8 (l.length + 1) d8))
                 have HB9 := Lib.hid (hb8.set 1 (.slice G8 (l.length + 1) d8))
                 have HI9 := Lib.hid (own_far (i := 1) hi8 hb8 (by decide) (.slice G8 (l.length + 1) d8))
                 have HQ9 := Lib.hid (own_far (i := 1) hown8 hb8 (by decide) (.slice G8 (l.length + 1) d8))
                 have HBL9 := Lib.hid (hbl8.setCell (p := ⟨C, 1, none⟩) (by show w.heap.size ≤ C; have := HCS.out; omega) (.slice G8 (l.length + 1) d8))
                 have b18 := hb8.cell 1
                 have f18 := hb8.frozen 1
                 have bl8 := hb8.lt
                 have q08 := hp8.cell 0
                 have q18 := hp8.cell 1
                 have q28 := hp8.cell 2
                 have pl8 := hp8.lt
                 clear hown8 hgr8 hat8 hal hr8 hb8 hp8 hi8 hbl8))
              have e : (l ++ [(⟨i, x, y, q⟩ : Pt)]).length = l.length + 1 := by simp
              refine ⟨⟨z, l ++ [⟨i, x, y, q⟩], G6, c6, G8, d8, rfl, by rw [HZ.out]; exact HPN.out, by rw [e]; omega, ⟨HR9.out, by rw [e]; exact HB9.out, ?_, ?_, HBL9.out⟩⟩, ?_⟩
              · rw [e, slots_snoc]
                unfold Pack.i64s
                rw [List.map_append]
                exact HI9.out
              · rw [e, pcells_snoc]
                simp only
                rw [← HZ.out]
                exact HQ9.out
              · rw [HB9.out.cell 0, HRT.out.box.cell 0]
                simp [lenOf]
                omega
            · have HN := Lib.hid (rd_stop (n := n) HPT.out hs (pat_far HFW.out (by omega)))
              rw [HWN.out, decide_eq_false hxy] at HWI
              clear HWN
              go_wp2_with fail
              refine (HS.out _ HRT.out.below).mono ?_
              rintro r w2 ⟨rfl, hb2⟩
              have HRT2 := Lib.hid ((HRT.out.keep hb2).keep ((Below.refl w2.heap.size w2).alloc (Nat.le_refl _) (.cells #[.int .i64 (x : Int), .int .i64 (y : Int), .int .i64 z] 74)))
              have HP2 := Lib.hid (hb_new w2 #[.int .i64 (x : Int), .int .i64 (y : Int), .int .i64 z] 74)
              have r02 := HRT2.out.res.cell 0
              have r12 := HRT2.out.res.cell 1
              have rl2 := HRT2.out.res.lt
              have rf02 := HRT2.out.res.frozen 0
              have rf12 := HRT2.out.res.frozen 1
              have HBE := Lib.hid HRT2.out.below
              clear hb2 HS r0 r1 rl rf0 rf1 b0 b1 bl bf0 bf1
              go_wp2_with fail
              generalize w2.alloc (.cells #[.int .i64 (x : Int), .int .i64 (y : Int), .int .i64 z] 74) = w3 at *
              refine (HRO.out _).mono ?_
              rintro r w4 ⟨rfl, hb4⟩
              have HRT4 := Lib.hid (HRT2.out.keep hb4)
              clear hb4 r02 r12 rl2 rf02 rf12 HRT2 HP2 HBE
              go_wp2_with fail
              refine (HWI.out _).mono ?_
              rintro r w5 ⟨rfl, hb5⟩
              have HRT5 := Lib.hid (HRT4.out.keep hb5)
              have r05 := HRT5.out.res.cell 0
              have r15 := HRT5.out.res.cell 1
              have rl5 := HRT5.out.res.lt
              have rf05 := HRT5.out.res.frozen 0
              have rf15 := HRT5.out.res.frozen 1
              clear hb5 HRT4
              go_wp2
              refine bodyPost_ret (v := .tuple #[.agg #[.slice none 0 0, .slice none 0 0], .int .i64 2]) ?_ rfl (RdN.none HN.out rfl ?_)
              · simp [results, Tryz.results71, go_sem, r05, r15]
              · exact (HRT5.out.below.setCell (p := ⟨w.heap.size, 0, none⟩) (Nat.le_refl _) _).setCell (p := ⟨w.heap.size, 1, none⟩) (Nat.le_refl _) _
        · have HN := Lib.hid (rd_stop (n := n) HPT.out hs (pat_out (by omega)))
          have HS := Lib.hid (fun w' (hb : Below w.heap.size w w') => Vol.slot_no (HV.out.keep hb) sv (by omega))
          go_wp2_with fail
          refine (HS.out _ HRT.out.below).mono ?_
          rintro r w2 ⟨rfl, hb2⟩
          have HRT2 := Lib.hid ((HRT.out.keep hb2).keep ((Below.refl w2.heap.size w2).alloc (Nat.le_refl _) (.cells #[.int .i64 0, .int .i64 0, .int .i64 0] 74)))
          have HP2 := Lib.hid (hb_new w2 #[.int .i64 0, .int .i64 0, .int .i64 0] 74)
          have r02 := HRT2.out.res.cell 0
          have r12 := HRT2.out.res.cell 1
          have rl2 := HRT2.out.res.lt
          have rf02 := HRT2.out.res.frozen 0
          have rf12 := HRT2.out.res.frozen 1
          have HBE := Lib.hid HRT2.out.below
          clear hb2 HS r0 r1 rl rf0 rf1 b0 b1 bl bf0 bf1
          go_wp2
          generalize w2.alloc (.cells #[.int .i64 0, .int .i64 0, .int .i64 0] 74) = w3 at *
          refine bodyPost_ret (v := .tuple #[.agg #[.slice none 0 0, .slice none 0 0], .int .i64 2]) ?_ rfl (RdN.none HN.out rfl ?_)
          · simp [results, Tryz.results71, go_sem, r02, r12]
          · exact (HBE.out.setCell (p := ⟨w.heap.size, 0, none⟩) (Nat.le_refl _) _).setCell (p := ⟨w.heap.size, 1, none⟩) (Nat.le_refl _) _
theorem read_any (h : Vo Q w vb a n m s W st sn) (hd : Int) :
    Calls Tryz.prog 71 #[.pointer (some ⟨vb, 0, none⟩), .int .i64 hd] w (RdTo n (fw W (16 + m * 8)) hd w) := by
  refine (read_new h hd).mono ?_
  intro r w' k
  unfold RdN at k
  unfold RdTo
  cases e : rd (pat (fw W (16 + m * 8)) n) n hd with
  | none =>
    rw [e] at k
    exact k
  | some l =>
    rw [e] at k
    obtain ⟨A, c, B, d, h1, h2, h3, h4, _, h6⟩ := k
    exact ⟨A, c, B, d, h1, h2, h3, h4.1, h4.2, h6⟩
end
end Chn
end Go.Proofs.YtilolepbfmcbgaaGreatDoor
/- Law 17's open. -/
namespace Go.Proofs.YtilolepbfmcbgaaGreatDoor
open Go.RowKit Go.MapKept
namespace Clm
open Vol (Vo Up Kq Hb hb_new hb_grown hb_apart Ov Pl gn gs dv rawW rdev_any open_any rawW_len rawW_read Vo.put wds_block)

section
variable {sl bm bk E : Nat} {ws : List Nat}
set_option maxHeartbeats 4000000 in
set_option maxRecDepth 100000 in
theorem kopen_any (w : World) (x y k : Nat) (hx : x < 256) (hy : y < 256) (hk : k < 256) (A : Option Addr) (c : Nat) (hws : Pack.Wds w A ws) (h : Pl (gn x) (gn y) (gs k) sl bm bk E) :
    Calls Tryz.prog 8 #[.agg #[.int .u8 (x : Int), .int .u8 (y : Int), .int .u8 (k : Int), .slice A ws.length c]] w fun r w' =>
      ∃ (Q : Nat → Prop) (vb a g gc : Nat), r = .returned (.tuple #[.pointer (some ⟨vb, 0, none⟩), .agg (dv (gn x) (gn y) (gs k) sl bm bk E (.slice (some ⟨g, 0, none⟩) E gc))]) ∧ Ov w w' Q vb a g gc (gn x) (gn y) (gs k) E (rawW (gn x) (gn y) (gs k) E ws) := by
  have HD := Lib.hid (fun w' (hb : Below w.heap.size w w') => rdev_any w' x y k hx hy hk A c (hws.keep hb) h)
  have HP := Lib.hid h
  obtain ⟨n, hn⟩ : ∃ n, n = gn x := ⟨_, rfl⟩
  obtain ⟨m, hm⟩ : ∃ m, m = gn y := ⟨_, rfl⟩
  obtain ⟨s, hs⟩ : ∃ s, s = gs k := ⟨_, rfl⟩
  rw [← hn, ← hm, ← hs] at HP HD ⊢
  clear hn hm hs h hws
  go_enter Tryz.func8, Tryz.ntmps8
  go_wp2_with fail
  have hb0 := (Below.refl w.heap.size w).alloc (Nat.le_refl _) (.cells #[.int .u8 (x : Int), .int .u8 (y : Int), .int .u8 (k : Int), .slice A ws.length c] 24)
  have hz0 := World.size_alloc w (.cells #[.int .u8 (x : Int), .int .u8 (y : Int), .int .u8 (k : Int), .slice A ws.length c] 24)
  generalize w.alloc (.cells #[.int .u8 (x : Int), .int .u8 (y : Int), .int .u8 (k : Int), .slice A ws.length c] 24) = w0 at *
  have hb1 := hb0.alloc hb0.size (.cells #[.int .i64 0, .int .i64 0, .int .i64 0, .int .i64 0, .int .i64 0, .int .i64 0, .int .i64 0, .int .i64 0, .slice none 0 0] 30)
  have hv1 := hb_new w0 #[.int .i64 0, .int .i64 0, .int .i64 0, .int .i64 0, .int .i64 0, .int .i64 0, .int .i64 0, .int .i64 0, .slice none 0 0] 30
  rw [hz0] at hv1
  have HB1 := Lib.hid hb1
  have HV1 := Lib.hid hv1
  clear hb0 hz0 hb1 hv1
  generalize w0.alloc (.cells #[.int .i64 0, .int .i64 0, .int .i64 0, .int .i64 0, .int .i64 0, .int .i64 0, .int .i64 0, .int .i64 0, .slice none 0 0] 30) = w1 at *
  clear w0
  refine (HD.out _ HB1.out).mono ?_
  rintro r w2 ⟨a, g, gc, B, rfl, h1, h2, h3, h4, hup, hwd, hb⟩
  have HN := Lib.hid (show w.heap.size + 1 < B ∧ (w.heap.size + 1 < g ∧ g < B) ∧ B ≤ w2.heap.size ∧ E ≤ gc from ⟨by have := HV1.out.lt; omega, ⟨by have := HV1.out.lt; omega, h2.2⟩, h3, h4⟩)
  have HU2 := Lib.hid hup
  have HD2 := Lib.hid hwd
  have HV2 := Lib.hid (HV1.out.keep hb)
  have HB2 := Lib.hid (HB1.out.trans (hb.mono HB1.out.size))
  clear h1 h2 h3 h4 hup hwd hb HV1 HB1 HD
  unfold dv
  have hb3 := (Below.refl w2.heap.size w2).alloc (Nat.le_refl _) (.cells #[.int .i64 (n : Int), .int .i64 (m : Int), .int .i64 (s : Int), .int .i64 16, .int .i64 (sl : Int), .int .i64 (bm : Int), .int .i64 (bk : Int), .int .i64 (E : Int), .slice (some ⟨g, 0, none⟩) E gc] 30)
  have HX3 := Lib.hid (hb_new w2 #[.int .i64 (n : Int), .int .i64 (m : Int), .int .i64 (s : Int), .int .i64 16, .int .i64 (sl : Int), .int .i64 (bm : Int), .int .i64 (bk : Int), .int .i64 (E : Int), .slice (some ⟨g, 0, none⟩) E gc] 30)
  have HU3 := Lib.hid (HU2.out.keep hb3)
  have HD3 := Lib.hid (HD2.out.keep hb3)
  have HV3 := Lib.hid (HV2.out.keep hb3)
  have HB3 := Lib.hid (HB2.out.trans (hb3.mono HB2.out.size))
  have hz3 := World.size_alloc w2 (.cells #[.int .i64 (n : Int), .int .i64 (m : Int), .int .i64 (s : Int), .int .i64 16, .int .i64 (sl : Int), .int .i64 (bm : Int), .int .i64 (bk : Int), .int .i64 (E : Int), .slice (some ⟨g, 0, none⟩) E gc] 30)
  have HS3 := Lib.hid hz3
  have HOP := Lib.hid (open_any HU3.out HP.out.may (by rw [rawW_len HP.out]; exact HP.out.e4.symm) (rawW_read HP.out))
  clear hb3 hz3 HU2 HD2 HV2 HB2
  go_wp2_with fail
  generalize w2.alloc (.cells #[.int .i64 (n : Int), .int .i64 (m : Int), .int .i64 (s : Int), .int .i64 16, .int .i64 (sl : Int), .int .i64 (bm : Int), .int .i64 (bk : Int), .int .i64 (E : Int), .slice (some ⟨g, 0, none⟩) E gc] 30) = w3 at *
  refine HOP.out.mono ?_
  rintro r w4 ⟨vb, rfl, hvb, hvo, hb⟩
  have HV4 := Lib.hid (hvo.sub (Q' := fun k => k < B ∨ k = vb) (fun k hk => by
    rcases hk with hk | rfl
    · exact .inl hk
    · exact .inr ⟨hvb, hvo.lt⟩) (.inr rfl))
  have HX4 := Lib.hid (HX3.out.keep hb)
  have HD4 := Lib.hid (HD3.out.keep hb)
  have HR4 := Lib.hid (HV3.out.keep hb)
  have HB4 := Lib.hid (HB3.out.trans (hb.mono HB3.out.size))
  have HVB := Lib.hid (show w2.heap.size + 1 ≤ vb by have := HS3.out; omega)
  clear hvb hvo hb HOP HX3 HD3 HV3 HB3 HU3 HS3
  have c0 := HX4.out.cell 0
  have c1 := HX4.out.cell 1
  have c2 := HX4.out.cell 2
  have c3 := HX4.out.cell 3
  have c4 := HX4.out.cell 4
  have c5 := HX4.out.cell 5
  have c6 := HX4.out.cell 6
  have c7 := HX4.out.cell 7
  have c8 := HX4.out.cell 8
  have d0 := HR4.out.cell 0
  have d1 := HR4.out.cell 1
  have d2 := HR4.out.cell 2
  have d3 := HR4.out.cell 3
  have d4 := HR4.out.cell 4
  have d5 := HR4.out.cell 5
  have d6 := HR4.out.cell 6
  have d7 := HR4.out.cell 7
  have d8 := HR4.out.cell 8
  have f0 := HR4.out.frozen 0
  have f1 := HR4.out.frozen 1
  have f2 := HR4.out.frozen 2
  have f3 := HR4.out.frozen 3
  have f4 := HR4.out.frozen 4
  have f5 := HR4.out.frozen 5
  have f6 := HR4.out.frozen 6
  have f7 := HR4.out.frozen 7
  have f8 := HR4.out.frozen 8
  have hxl := HX4.out.lt
  have hrl := HR4.out.lt
  have hN := HN.out
  have hVB := HVB.out
  have hne1 : ¬ w2.heap.size = w.heap.size + 1 := by omega
  have hne2 : ¬ w.heap.size + 1 = w2.heap.size := by omega
  go_wp2_with fail
  go_region
  go_wp2
  have hd : ∀ V : World, Below V.heap.size V V.drew := fun V => ⟨rfl, rfl, rfl, Nat.le_refl _, fun _ _ => rfl⟩
  refine bodyPost_ret (v := .tuple #[.pointer (some ⟨vb, 0, none⟩), .agg #[.int .i64 (n : Int), .int .i64 (m : Int), .int .i64 (s : Int), .int .i64 16, .int .i64 (sl : Int), .int .i64 (bm : Int), .int .i64 (bk : Int), .int .i64 (E : Int), .slice (some ⟨g, 0, none⟩) E gc]]) ?_ rfl ⟨fun k => k < B ∨ k = vb, vb, a, g, gc, rfl, ⟨?_, .inl hN.2.1.2, fun k hk => .inl (by omega), ?_, hN.2.2.2, ?_, rawW_len HP.out⟩⟩
  · simp [results, Tryz.results8, go_sem, d0, d1, d2, d3, d4, d5, d6, d7, d8]
  · refine Vo.keep ?_ (hd _)
    iterate 9 refine Vo.put ?_ (.inl hN.1) (by show vb ≠ w.heap.size + 1; omega) _
    exact HV4.out
  · refine Pack.Wds.keep ?_ (hd _)
    iterate 9 refine wds_block ?_ (Below.heap_setCell _ _ _ _ (by show g ≠ w.heap.size + 1; omega))
    exact HD4.out
  · refine Below.trans ?_ ((hd _).mono (by simp only [World.setCell, Array.size_modify]; exact HB4.out.size))
    iterate 9 refine Below.setCell ?_ (Nat.le_succ _) _
    exact HB4.out
end
end Clm
end Go.Proofs.YtilolepbfmcbgaaGreatDoor
/- What a chain tells: Count, Blocks, Find, Runs. -/
namespace Go.Proofs.YtilolepbfmcbgaaGreatDoor
open Go.RowKit Go.MapKept
namespace Chn
open Vol (Hb hb_new hb_grown hb_apart)

/-- parts that may be -/
def Mays (l : List Pt) : Prop := ∀ p ∈ l, Slo.may (p.x : Int) (p.c : Int) (Slo.nx p.q) = true
/-- how many blocks -/
def tot (l : List Pt) : Nat := (l.map Pt.c).sum
theorem tot_snoc {l : List Pt} {m : Nat} (h : m < l.length) : tot (l.take (m + 1)) = tot (l.take m) + l[m].c := by
  unfold tot
  rw [List.take_succ_eq_append_getElem h, List.map_append, List.sum_append]
  simp
theorem tot_le {l : List Pt} (h : Mays l) (k : Nat) : tot (l.take k) ≤ 65534 * l.length := by
  have : ∀ (l : List Pt), Mays l → tot l ≤ 65534 * l.length := by
    intro l
    induction l with
    | nil => intro _; simp [tot]
    | cons p l ih =>
      intro h
      have h1 := ih (fun q hq => h q (List.mem_cons_of_mem _ hq))
      have h2 := Slo.may_lt (h p (by simp))
      unfold tot at h1 ⊢
      simp only [List.map_cons, List.sum_cons, List.length_cons]
      omega
  have h1 := this (l.take k) (fun p hp => h p (List.mem_of_mem_take hp))
  have h2 : (l.take k).length ≤ l.length := by rw [List.length_take]; omega
  omega
/-- all blocks -/
def blk (l : List Pt) : List Nat := l.flatMap fun p => (List.range p.c).map (p.x + ·)
theorem blk_len : ∀ l : List Pt, (blk l).length = tot l
  | [] => rfl
  | p :: l => by
    have := blk_len l
    unfold blk tot at this ⊢
    rw [List.flatMap_cons, List.length_append, this]
    simp

theorem blocksOf_any (w : World) (x c q : Nat) (z : Int) (hz : z = Slo.nx q) (hm : Slo.may (x : Int) (c : Int) (Slo.nx q) = true) :
    Calls Tryz.prog 55 #[.agg #[.int .i64 (x : Int), .int .i64 (c : Int), .int .i64 z]] w fun r w' => r = .returned (.int .i64 (c : Int)) ∧ Below w.heap.size w w' := by
  subst hz
  have hmy := fun w => Slo.may_any w (x : Int) (c : Int) (Slo.nx q)
  rw [hm] at hmy
  have HM := Lib.hid hmy
  clear hmy hm
  generalize Slo.nx q = z at *
  go_enter Tryz.func55, Tryz.ntmps55
  go_wp2_with fail
  have hb0 := (Below.refl w.heap.size w).alloc (Nat.le_refl _) (.cells #[.int .i64 (x : Int), .int .i64 (c : Int), .int .i64 z] 74)
  have HX := Lib.hid (hb_new w #[.int .i64 (x : Int), .int .i64 (c : Int), .int .i64 z] 74)
  have HB := Lib.hid hb0
  clear hb0
  generalize w.alloc (.cells #[.int .i64 (x : Int), .int .i64 (c : Int), .int .i64 z] 74) = w0 at *
  refine (HM.out _).mono ?_
  rintro r w1 ⟨rfl, hb⟩
  have c1 := (HX.out.keep hb).cell 1
  have HB1 := Lib.hid (HB.out.trans (hb.mono HB.out.size))
  clear hb
  go_wp2
  go_ret
  exact ⟨rfl, HB1.out⟩
set_option maxHeartbeats 1000000 in
set_option maxRecDepth 100000 in
theorem count_any (w : World) (A B : Option Addr) (n' c d : Nat) (l : List Pt) (h : Prt w B l) (hm : Mays l) (hl : l.length ≤ 65534) :
    Calls Tryz.prog 22 #[.agg #[.slice A n' c, .slice B l.length d]] w fun r w' => r = .returned (.int .i64 (tot l : Nat)) ∧ Below w.heap.size w w' := by
  have H := Lib.hid h
  have HM := Lib.hid hm
  have HTL := Lib.hid (tot_le hm)
  clear h hm
  go_enter Tryz.func22, Tryz.ntmps22
  go_wp2
  have HB0 := Lib.hid ((Below.refl w.heap.size w).alloc (Nat.le_refl _) (.cells #[.slice A n' c, .slice B l.length d] 63))
  go_loopw [3, 9] (fun cnt i wr => ∃ m : Nat, m ≤ l.length ∧ i = .int .i64 (m : Int) ∧ cnt = .int .i64 (tot (l.take m) : Nat) ∧ Below w.heap.size w wr) (fun _ i _ => l.length - (intOf i).toNat)
  case atStart => exact ⟨0, Nat.zero_le _, rfl, by simp [tot], HB0.out⟩
  case round =>
    obtain ⟨m, hm, rfl, rfl, hb⟩ := hrel
    clear HB0
    by_cases hlt : m < l.length
    · obtain ⟨b, o, rfl, hbb, hc0, hc1, hc2⟩ := H.out.at' m hlt
      have hc0 := (hb.cell (p := ⟨b, o + m * 3, none⟩) hbb).trans hc0
      have hc1 := (hb.cell (p := ⟨b, o + m * 3 + 1, none⟩) hbb).trans hc1
      have hc2 := (hb.cell (p := ⟨b, o + m * 3 + 2, none⟩) hbb).trans hc2
      have hbb := Nat.lt_of_lt_of_le hbb hb.size
      have HBO := Lib.hid (fun w => blocksOf_any w l[m].x l[m].c l[m].q _ rfl (HM.out _ (List.getElem_mem hlt)))
      have HT := Lib.hid (tot_snoc hlt)
      have ht0 := HTL.out m
      have hcl := (Slo.may_lt (HM.out _ (List.getElem_mem hlt))).2.2.1
      generalize l[m] = p at *
      obtain ⟨p0, x, y, q⟩ := p
      simp only at hc0 hc1 hc2 HBO HT hcl
      generalize Slo.nx q = z at *
      have hba := hb.alloc hb.size (.cells #[.int .i64 (x : Int), .int .i64 (y : Int), .int .i64 z] 74)
      have HB := Lib.hid hba
      generalize tot (l.take m) = T at *
      clear hba hb
      go_wp2_with fail
      refine (HBO.out _).mono ?_
      rintro r w2 ⟨rfl, hb2⟩
      have HB2 := Lib.hid (HB.out.trans (hb2.mono HB.out.size))
      clear hb2
      go_wp2
      refine ⟨⟨m + 1, by omega, by go_num, ?_, HB2.out⟩, by simp [intOf]; omega⟩
      rw [HT.out]
      go_num
    · obtain rfl : m = l.length := by omega
      rw [List.take_length]
      go_wp2
      go_ret
      exact ⟨rfl, hb⟩
end Chn
end Go.Proofs.YtilolepbfmcbgaaGreatDoor
