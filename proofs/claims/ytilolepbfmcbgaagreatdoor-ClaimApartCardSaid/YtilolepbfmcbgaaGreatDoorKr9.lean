/- Texts laid together: ClmScan, ClmTell, ClmChain, ClmUsed, ClmNext, ChnRange. -/
import Derived.Test.YtilolepbfmcbgaaGreatDoorKr8
import Derived.Test.YtilolepbfmcbgaaGreatDoorKr5
import Derived.Test.YtilolepbfmcbgaaGreatDoorKr6
import Derived.Test.YtilolepbfmcbgaaGreatDoorKr7
import Derived.IntWalk
import Derived.RangeFuncWrites
import Derived.RangeFuncNested
import Derived.RangeFuncBound
import Derived.RangeFuncCalls
import Derived.RangeFuncLeaves
import Derived.RangeFuncBox
import Derived.Shelf.Abstract
import Derived.Shelf.RegionOpen
import Derived.WalkKit
import Derived.OwnWalkIn
import Derived.TacticsInMore
import Derived.LoopNIn
import Derived.LoopIn
import Derived.Test.YtilolepbfmcbgaaGreatDoorKr3
import Derived.Test.YtilolepbfmcbgaaGreatDoorKa1
import Derived.Lib.Hide
import Derived.Test.YtilolepbfmcbgaaGreatDoorKa2
import Derived.Test.YtilolepbfmcbgaaGreatDoorKa3
import Derived.Test.YtilolepbfmcbgaaGreatDoorKr1
import Derived.Test.YtilolepbfmcbgaaGreatDoorKr2
import Derived.Test.YtilolepbfmcbgaaGreatDoorKr4
/- claim.Scan. -/
namespace Go.Proofs.YtilolepbfmcbgaaGreatDoor
open Go.RowKit Go.MapKept
namespace Clm
open Chn (Pt New Prt slots Mays tot blk blk_len rd pat fw)
open Vol (Vo Hb hb_new rdw)
open Pack (Nts)
open Lin (take_yes take_no any_states op_step)

/-- a value, once it is there -/
def on (b : Bool) (v : Value) : Value := bif b then v else undef
theorem on_true (v : Value) : on true v = v := rfl
theorem on_false (v : Value) : on false v = undef := rfl
def nodes0 (m : Nat) : Array Value := madeCells #[.int .i64 0, .int .i64 0, .int .i64 0] (m * 3)
def chains0 (m : Nat) : Array Value := madeCells #[.slice none 0 0, .slice none 0 0] (m * 2)
def places0 (n : Nat) : Array Value := madeCells #[.int .i64 0, .int .i64 0] (n * 2)
/-- the parts that a Scan makes: which of them are there, and where -/
structure Sc (w0 : World) (B gb n m s k : Nat) (x y z : Bool) (nb cb pb bq sq : Nat) (W : World) : Prop where
  below : Below B w0 W
  hB : B ≤ W.heap.size
  geo : Hb W gb #[.int .i64 (n : Int), .int .i64 (m : Int), .int .i64 (s : Int)] 85
  f1 : x = true → Hb W nb (nodes0 m) 58 ∧ B ≤ nb
  f2 : y = true → Hb W cb (chains0 m) 63 ∧ B ≤ cb
  f3 : z = true → Hb W pb (places0 n) 156 ∧ B ≤ pb
  f4 : 1 ≤ k → Bm.Mp W (bq + 1) bq ((n + 63) / 64) ((n + 63) / 64) n (fun _ => false) ∧ B ≤ bq
  f5 : 2 ≤ k → Bm.Mp W (sq + 1) sq ((n + 63) / 64) ((n + 63) / 64) n (fun _ => false) ∧ bq + 1 < sq
  d12 : x = true → y = true → nb ≠ cb
  d13 : x = true → z = true → nb ≠ pb
  d23 : y = true → z = true → cb ≠ pb
  d14 : x = true → 1 ≤ k → nb ≠ bq ∧ nb ≠ bq + 1
  d24 : y = true → 1 ≤ k → cb ≠ bq ∧ cb ≠ bq + 1
  d34 : z = true → 1 ≤ k → pb ≠ bq ∧ pb ≠ bq + 1
  d15 : x = true → 2 ≤ k → nb ≠ sq ∧ nb ≠ sq + 1
  d25 : y = true → 2 ≤ k → cb ≠ sq ∧ cb ≠ sq + 1
  d35 : z = true → 2 ≤ k → pb ≠ sq ∧ pb ≠ sq + 1
section
variable {w0 W W' : World} {B gb n m s k nb cb pb bq sq : Nat} {x y z : Bool}
theorem Sc.keep (h : Sc w0 B gb n m s k x y z nb cb pb bq sq W) (hb : Below W.heap.size W W') : Sc w0 B gb n m s k x y z nb cb pb bq sq W' :=
  ⟨h.below.trans (hb.mono h.hB), Nat.le_trans h.hB hb.size, h.geo.keep hb, fun e => ⟨(h.f1 e).1.keep hb, (h.f1 e).2⟩, fun e => ⟨(h.f2 e).1.keep hb, (h.f2 e).2⟩, fun e => ⟨(h.f3 e).1.keep hb, (h.f3 e).2⟩, fun e => ⟨(h.f4 e).1.keep hb, (h.f4 e).2⟩, fun e => ⟨(h.f5 e).1.keep hb, (h.f5 e).2⟩,
    h.d12, h.d13, h.d23, h.d14, h.d24, h.d34, h.d15, h.d25, h.d35⟩
theorem Sc.lt4 (h : Sc w0 B gb n m s k x y z nb cb pb bq sq W) (e : 1 ≤ k) : bq + 1 < W.heap.size := (h.f4 e).1.lt
theorem Sc.lt5 (h : Sc w0 B gb n m s k x y z nb cb pb bq sq W) (e : 2 ≤ k) : sq + 1 < W.heap.size := (h.f5 e).1.lt
theorem Sc.new1 (h : Sc w0 B gb n m s k x y z nb cb pb bq sq W) : Sc w0 B gb n m s k true y z W.heap.size cb pb bq sq (W.alloc (.cells (nodes0 m) 58)) := by
  have hk := h.keep ((Below.refl W.heap.size W).alloc (Nat.le_refl _) (.cells (nodes0 m) 58))
  exact ⟨hk.below, hk.hB, hk.geo, fun _ => ⟨hb_new W _ _, h.hB⟩, hk.f2, hk.f3, hk.f4, hk.f5, fun _ e => Nat.ne_of_gt (h.f2 e).1.lt, fun _ e => Nat.ne_of_gt (h.f3 e).1.lt, hk.d23,
    fun _ e => by have := h.lt4 e; omega, hk.d24, hk.d34, fun _ e => by have := h.lt5 e; omega, hk.d25, hk.d35⟩
theorem Sc.new2 (h : Sc w0 B gb n m s k x y z nb cb pb bq sq W) : Sc w0 B gb n m s k x true z nb W.heap.size pb bq sq (W.alloc (.cells (chains0 m) 63)) := by
  have hk := h.keep ((Below.refl W.heap.size W).alloc (Nat.le_refl _) (.cells (chains0 m) 63))
  exact ⟨hk.below, hk.hB, hk.geo, hk.f1, fun _ => ⟨hb_new W _ _, h.hB⟩, hk.f3, hk.f4, hk.f5, fun e _ => Nat.ne_of_lt (h.f1 e).1.lt, hk.d13, fun _ e => Nat.ne_of_gt (h.f3 e).1.lt,
    hk.d14, fun _ e => by have := h.lt4 e; omega, hk.d34, hk.d15, fun _ e => by have := h.lt5 e; omega, hk.d35⟩
theorem Sc.new3 (h : Sc w0 B gb n m s k x y z nb cb pb bq sq W) : Sc w0 B gb n m s k x y true nb cb W.heap.size bq sq (W.alloc (.cells (places0 n) 156)) := by
  have hk := h.keep ((Below.refl W.heap.size W).alloc (Nat.le_refl _) (.cells (places0 n) 156))
  exact ⟨hk.below, hk.hB, hk.geo, hk.f1, hk.f2, fun _ => ⟨hb_new W _ _, h.hB⟩, hk.f4, hk.f5, hk.d12, fun e _ => Nat.ne_of_lt (h.f1 e).1.lt, fun e _ => Nat.ne_of_lt (h.f2 e).1.lt,
    hk.d14, hk.d24, fun _ e => by have := h.lt4 e; omega, hk.d15, hk.d25, fun _ e => by have := h.lt5 e; omega⟩
theorem Sc.new4 (h : Sc w0 B gb n m s 0 x y z nb cb pb bq sq W) (hm : Bm.Mp W' (W.heap.size + 1) W.heap.size ((n + 63) / 64) ((n + 63) / 64) n (fun _ => false)) (hb : Below W.heap.size W W') : Sc w0 B gb n m s 1 x y z nb cb pb W.heap.size sq W' := by
  have hk := h.keep hb
  exact ⟨hk.below, hk.hB, hk.geo, hk.f1, hk.f2, hk.f3, fun _ => ⟨hm, h.hB⟩, fun e => by omega, hk.d12, hk.d13, hk.d23,
    fun e _ => by have := (h.f1 e).1.lt; omega, fun e _ => by have := (h.f2 e).1.lt; omega, fun e _ => by have := (h.f3 e).1.lt; omega, fun _ e => by omega, fun _ e => by omega, fun _ e => by omega⟩
theorem Sc.new5 (h : Sc w0 B gb n m s 1 x y z nb cb pb bq sq W) (hm : Bm.Mp W' (W.heap.size + 1) W.heap.size ((n + 63) / 64) ((n + 63) / 64) n (fun _ => false)) (hb : Below W.heap.size W W') : Sc w0 B gb n m s 2 x y z nb cb pb bq W.heap.size W' := by
  have hk := h.keep hb
  exact ⟨hk.below, hk.hB, hk.geo, hk.f1, hk.f2, hk.f3, fun _ => hk.f4 (by omega), fun _ => ⟨hm, h.lt4 (by omega)⟩, hk.d12, hk.d13, hk.d23,
    fun e _ => h.d14 e (by omega), fun e _ => h.d24 e (by omega), fun e _ => h.d34 e (by omega),
    fun e _ => by have := (h.f1 e).1.lt; omega, fun e _ => by have := (h.f2 e).1.lt; omega, fun e _ => by have := (h.f3 e).1.lt; omega⟩
end
/-- the states of the region of claim.go:31: how many maps, and which rows, are made -/
def lst (s : Nat × Bool × Bool × Bool) : Array Bool := #[true, true, s.2.1, true, true, s.2.2.1, true, true, Nat.blt 0 s.1, true, true, Nat.blt 1 s.1, true, true, s.2.2.2, false, false, false]
def left (s : Nat × Bool × Bool × Bool) : Nat := (2 - s.1) + ((!s.2.1).toNat + ((!s.2.2.1).toNat + (!s.2.2.2).toNat))
def calls : Nat → List Nat
  | 0 => [8]
  | 1 => [11]
  | _ => []
def rdy (s : Nat × Bool × Bool × Bool) : List Nat := (bif s.2.1 then [] else [2]) ++ ((bif s.2.2.1 then [] else [5]) ++ (calls s.1 ++ (bif s.2.2.2 then [] else [14])))
def act (vb gb n m s k : Nat) (x y z : Bool) (nb cb pb bq sq : Nat) : Act :=
  { tmps := #[.pointer (some ⟨vb, 0, none⟩), undef, .pointer none, .int .i64 0, .pointer (some ⟨gb, 0, none⟩), undef, undef, .pointer (some ⟨vb, 0, none⟩), .agg #[.int .i64 (n : Int), .int .i64 (m : Int), .int .i64 (s : Int)], .pointer (some ⟨gb, 1, none⟩), .int .i64 (m : Int), on x (.slice (some ⟨nb, 0, none⟩) m m), .pointer (some ⟨gb, 1, none⟩), .int .i64 (m : Int), on y (.slice (some ⟨cb, 0, none⟩) m m), .pointer (some ⟨gb, 0, none⟩), .int .i64 (n : Int), on (Nat.blt 0 k) (.pointer (some ⟨bq + 1, 0, none⟩)), .pointer (some ⟨gb, 0, none⟩), .int .i64 (n : Int), on (Nat.blt 1 k) (.pointer (some ⟨sq + 1, 0, none⟩)), .pointer (some ⟨gb, 0, none⟩), .int .i64 (n : Int), on z (.slice (some ⟨pb, 0, none⟩) n n), undef, undef, undef, undef, undef, undef, undef, undef, undef, undef, undef, undef, undef, undef], defers := [] }
theorem left_pos {k : Nat} {x y z : Bool} (hk : k ≤ 2) (h : left (k, x, y, z) = 0) : k = 2 ∧ x = true ∧ y = true ∧ z = true := by
  unfold left at h
  cases x <;> cases y <;> cases z <;> simp at h ⊢ <;> omega
theorem left_call {k : Nat} {x y z : Bool} (hk : k < 2) : left (k, x, y, z) = left (k + 1, x, y, z) + 1 := by
  unfold left
  simp only
  omega
theorem left_one (k : Nat) (y z : Bool) : left (k, false, y, z) = left (k, true, y, z) + 1 := by
  unfold left
  simp
  omega
theorem left_two (k : Nat) (x z : Bool) : left (k, x, false, z) = left (k, x, true, z) + 1 := by
  unfold left
  simp
  omega
theorem left_three (k : Nat) (x y : Bool) : left (k, x, y, false) = left (k, x, y, true) + 1 := by
  unfold left
  simp
  omega

/-- what Scan leaves -/
def ScTo (W : List Nat) (n m s : Nat) (w : World) (r : Ending) (w' : World) : Prop :=
  (scn (gi W n m s) m = none ∧ r = .returned (.tuple #[.pointer none, .int .i64 2]) ∧ Below w.heap.size w w') ∨
  (∃ L P N C X, scn (gi W n m s) m = some L ∧ r = .returned (.tuple #[.pointer (some ⟨P.c, 0, none⟩), .int .i64 0]) ∧ Cq w' P n m L N C X ∧ w.heap.size ≤ P.lo ∧ Below w.heap.size w w')
theorem node_info : (Tryz.prog.info? 58).map (fun i => (i.zero, i.size, i.bytes)) = some (some (.agg #[.int .i64 0, .int .i64 0, .int .i64 0]), 3, 24) := by kernel_rfl
theorem chain_info : (Tryz.prog.info? 63).map (fun i => (i.zero, i.size, i.bytes)) = some (some (.agg #[.slice none 0 0, .slice none 0 0]), 2, 48) := by kernel_rfl
theorem place_info : (Tryz.prog.info? 156).map (fun i => (i.zero, i.size, i.bytes)) = some (some (.agg #[.int .i64 0, .int .i64 0]), 2, 16) := by kernel_rfl
theorem made {w0 W : World} {B gb n m s nb cb pb bq sq : Nat} (h : Sc w0 B gb n m s 2 true true true nb cb pb bq sq W) (hm : m ≤ 65534) :
    Cq (W.alloc (.cells #[.slice (some ⟨nb, 0, none⟩) m m, .slice (some ⟨cb, 0, none⟩) m m, .pointer (some ⟨bq + 1, 0, none⟩), .pointer (some ⟨sq + 1, 0, none⟩), .slice (some ⟨pb, 0, none⟩) n n] 92)) ⟨B, nb, cb, bq, bq + 1, sq, sq + 1, pb, W.heap.size, (n + 63) / 64, (n + 63) / 64⟩ n m [] (nodes0 m) (chains0 m) (places0 n) := by
  have hk := h.keep ((Below.refl W.heap.size W).alloc (Nat.le_refl _) (.cells #[.slice (some ⟨nb, 0, none⟩) m m, .slice (some ⟨cb, 0, none⟩) m m, .pointer (some ⟨bq + 1, 0, none⟩), .pointer (some ⟨sq + 1, 0, none⟩), .slice (some ⟨pb, 0, none⟩) n n] 92))
  have l1 := (h.f1 rfl).1.lt
  have l2 := (h.f2 rfl).1.lt
  have l3 := (h.f3 rfl).1.lt
  have l4 := h.lt4 (by omega)
  have l5 := h.lt5 (by omega)
  have b1 := (h.f1 rfl).2
  have b2 := (h.f2 rfl).2
  have b3 := (h.f3 rfl).2
  have b4 := (h.f4 (by omega)).2
  have b5 := (h.f5 (by omega)).2
  have d14 := h.d14 rfl (by omega)
  have d24 := h.d24 rfl (by omega)
  have d34 := h.d34 rfl (by omega)
  have d15 := h.d15 rfl (by omega)
  have d25 := h.d25 rfl (by omega)
  have d35 := h.d35 rfl (by omega)
  refine ⟨⟨hb_new W _ _, (hk.f1 rfl).1, (hk.f2 rfl).1, (hk.f3 rfl).1, size_madeCells _ _, size_madeCells _ _, size_madeCells _ _, ?_, ?_, ⟨?_, ?_, ?_⟩, hm⟩, Nod.nil _, Chs.nil _ _ _, Plc.nil _⟩
  · have := (hk.f4 (by omega)).1
    rw [← ins_nil] at this
    exact this
  · have := (hk.f5 (by omega)).1
    rw [← ins_nil] at this
    exact this
  · simp only
    omega
  · simp only
    omega
  · exact ⟨h.d12 rfl rfl, d14.1, d14.2, d15.1, d15.2, h.d13 rfl rfl, d24.1, d24.2, d25.1, d25.2, h.d23 rfl rfl, by simp only; omega, by simp only; omega, by simp only; omega, Ne.symm d34.1, by simp only; omega, by simp only; omega, Ne.symm d34.2, by simp only; omega, Ne.symm d35.1, Ne.symm d35.2⟩
section
variable {Q : Nat → Prop} {w : World} {vb a n m s : Nat} {W : List Nat} {st sn : Nat}
set_option maxHeartbeats 4000000 in
set_option maxRecDepth 100000 in
theorem scan_any (hv : Vo Q w vb a n m s W st sn) :
    Calls Tryz.prog 9 #[.pointer (some ⟨vb, 0, none⟩)] w (ScTo W n m s w) := by
  have HV := Lib.hid hv
  have HG := Lib.hid (Vol.geometry_any hv)
  have hnm := hv.num
  have hnn : n ≤ 65534 := by omega
  have hmm : m ≤ 65534 := by omega
  obtain ⟨i0, hi0, hz0, hz1, hz2⟩ := info_parts node_info
  have hmk0 := fun (W : World) => run_makeSlice (P := Tryz.prog) (w := W) 87 58 i0 (.agg #[.int .i64 0, .int .i64 0, .int .i64 0]) Tryz.underlying87 hi0 hz0 .i64 .i64 (m : Int) (m : Int) (by omega) (by omega) (by rw [hz1]; omega) (by rw [hz2]; omega) (by omega)
  obtain ⟨i1, hi1, hy0, hy1, hy2⟩ := info_parts chain_info
  have hmk1 := fun (W : World) => run_makeSlice (P := Tryz.prog) (w := W) 88 63 i1 (.agg #[.slice none 0 0, .slice none 0 0]) Tryz.underlying88 hi1 hy0 .i64 .i64 (m : Int) (m : Int) (by omega) (by omega) (by rw [hy1]; omega) (by rw [hy2]; omega) (by omega)
  obtain ⟨i2, hi2, hx0, hx1, hx2⟩ := info_parts place_info
  have hmk2 := fun (W : World) => run_makeSlice (P := Tryz.prog) (w := W) 90 156 i2 (.agg #[.int .i64 0, .int .i64 0]) Tryz.underlying90 hi2 hx0 .i64 .i64 (n : Int) (n : Int) (by omega) (by omega) (by rw [hx1]; omega) (by rw [hx2]; omega) (by omega)
  simp only [Int.toNat_natCast, hz1, hy1, hx1] at hmk0 hmk1 hmk2
  have hmk0 : ∀ W : World, Sem.run Tryz.prog (Instr.makeSlice 87 (.int .i64 (m : Int)) (.int .i64 (m : Int))) W = .ok (.slice (some ⟨W.heap.size, 0, none⟩) m m) (W.alloc (.cells (nodes0 m) 58)) := hmk0
  have hmk1 : ∀ W : World, Sem.run Tryz.prog (Instr.makeSlice 88 (.int .i64 (m : Int)) (.int .i64 (m : Int))) W = .ok (.slice (some ⟨W.heap.size, 0, none⟩) m m) (W.alloc (.cells (chains0 m) 63)) := hmk1
  have hmk2 : ∀ W : World, Sem.run Tryz.prog (Instr.makeSlice 90 (.int .i64 (n : Int)) (.int .i64 (n : Int))) W = .ok (.slice (some ⟨W.heap.size, 0, none⟩) n n) (W.alloc (.cells (places0 n) 156)) := hmk2
  have HNW := Lib.hid (fun w => Bm.new_any (n : Int) n ((n + 63) / 64) (by omega) rfl w)
  have HNM := Lib.hid hnm
  clear hv hnm
  go_enter Tryz.func9, Tryz.ntmps9
  go_wp2_with fail
  refine HG.out.mono ?_
  rintro r w1 ⟨rfl, hb⟩
  have HB1 := Lib.hid (hb.alloc hb.size (.cells #[.int .i64 (n : Int), .int .i64 (m : Int), .int .i64 (s : Int)] 85))
  have HX1 := Lib.hid (hb_new w1 #[.int .i64 (n : Int), .int .i64 (m : Int), .int .i64 (s : Int)] 85)
  have c0 := HX1.out.cell 0
  have c1 := HX1.out.cell 1
  have cl := HX1.out.lt
  clear hb HG
  go_wp2_with fail
  generalize w1.alloc (.cells #[.int .i64 (n : Int), .int .i64 (m : Int), .int .i64 (s : Int)] 85) = w2 at *
  generalize w1.heap.size = gb at *
  refine wp_region_held_drew (S := (fun W' => Hb W' gb #[.int .i64 (n : Int), .int .i64 (m : Int), .int .i64 (s : Int)] 85)) (by kernel_rfl) (HX1.out.keep (hd0 _)) (fun hHeld => ?_)
  refine take_yes 0 9 (.pointer (some ⟨gb, 1, none⟩)) rfl rfl (by kernel_rfl) (by kernel_rfl) (by kernel_rfl) (fun _ _ _ h => h) rfl ?_ (by assumption) ?_
  · intro w hSw
    try dsimp only at hSw
    go_simp
  simp only [Act.put, List.setIfInBounds_toArray, List.set_cons_zero, List.set_cons_succ]
  refine take_yes 1 10 (.int .i64 (m : Int)) rfl rfl (by kernel_rfl) (by kernel_rfl) (by kernel_rfl) (fun _ _ _ h => h) rfl ?_ (by assumption) ?_
  · intro w hSw
    try dsimp only at hSw
    have hv := hSw.cell 1
    have hl := hSw.lt
    go_simp
  simp only [Act.put, List.setIfInBounds_toArray, List.set_cons_zero, List.set_cons_succ]
  refine take_yes 3 12 (.pointer (some ⟨gb, 1, none⟩)) rfl rfl (by kernel_rfl) (by kernel_rfl) (by kernel_rfl) (fun _ _ _ h => h) rfl ?_ (by assumption) ?_
  · intro w hSw
    try dsimp only at hSw
    go_simp
  simp only [Act.put, List.setIfInBounds_toArray, List.set_cons_zero, List.set_cons_succ]
  refine take_yes 4 13 (.int .i64 (m : Int)) rfl rfl (by kernel_rfl) (by kernel_rfl) (by kernel_rfl) (fun _ _ _ h => h) rfl ?_ (by assumption) ?_
  · intro w hSw
    try dsimp only at hSw
    have hv := hSw.cell 1
    have hl := hSw.lt
    go_simp
  simp only [Act.put, List.setIfInBounds_toArray, List.set_cons_zero, List.set_cons_succ]
  refine take_yes 6 15 (.pointer (some ⟨gb, 0, none⟩)) rfl rfl (by kernel_rfl) (by kernel_rfl) (by kernel_rfl) (fun _ _ _ h => h) rfl ?_ (by assumption) ?_
  · intro w hSw
    try dsimp only at hSw
    go_simp
  simp only [Act.put, List.setIfInBounds_toArray, List.set_cons_zero, List.set_cons_succ]
  refine take_yes 7 16 (.int .i64 (n : Int)) rfl rfl (by kernel_rfl) (by kernel_rfl) (by kernel_rfl) (fun _ _ _ h => h) rfl ?_ (by assumption) ?_
  · intro w hSw
    try dsimp only at hSw
    have hv := hSw.cell 0
    have hl := hSw.lt
    go_simp
  simp only [Act.put, List.setIfInBounds_toArray, List.set_cons_zero, List.set_cons_succ]
  refine take_yes 9 18 (.pointer (some ⟨gb, 0, none⟩)) rfl rfl (by kernel_rfl) (by kernel_rfl) (by kernel_rfl) (fun _ _ _ h => h) rfl ?_ (by assumption) ?_
  · intro w hSw
    try dsimp only at hSw
    go_simp
  simp only [Act.put, List.setIfInBounds_toArray, List.set_cons_zero, List.set_cons_succ]
  refine take_yes 10 19 (.int .i64 (n : Int)) rfl rfl (by kernel_rfl) (by kernel_rfl) (by kernel_rfl) (fun _ _ _ h => h) rfl ?_ (by assumption) ?_
  · intro w hSw
    try dsimp only at hSw
    have hv := hSw.cell 0
    have hl := hSw.lt
    go_simp
  simp only [Act.put, List.setIfInBounds_toArray, List.set_cons_zero, List.set_cons_succ]
  refine take_yes 12 21 (.pointer (some ⟨gb, 0, none⟩)) rfl rfl (by kernel_rfl) (by kernel_rfl) (by kernel_rfl) (fun _ _ _ h => h) rfl ?_ (by assumption) ?_
  · intro w hSw
    try dsimp only at hSw
    go_simp
  simp only [Act.put, List.setIfInBounds_toArray, List.set_cons_zero, List.set_cons_succ]
  refine take_yes 13 22 (.int .i64 (n : Int)) rfl rfl (by kernel_rfl) (by kernel_rfl) (by kernel_rfl) (fun _ _ _ h => h) rfl ?_ (by assumption) ?_
  · intro w hSw
    try dsimp only at hSw
    have hv := hSw.cell 0
    have hl := hSw.lt
    go_simp
  simp only [Act.put, List.setIfInBounds_toArray, List.set_cons_zero, List.set_cons_succ]
  clear c0 c1 cl hHeld
  refine any_states (σ := Nat × Bool × Bool × Bool) lst left rdy (fun st a W => st.1 ≤ 2 ∧ ∃ nb cb pb bq sq, a = act vb gb n m s st.1 st.2.1 st.2.2.1 st.2.2.2 nb cb pb bq sq ∧ Sc w w.heap.size gb n m s st.1 st.2.1 st.2.2.1 st.2.2.2 nb cb pb bq sq W) 3 ?_ ?_ ?_ 5 (0, false, false, false) _ _ rfl ⟨by omega, 0, 0, 0, 0, 0, rfl, HB1.out.drew, HB1.out.drew.size, HX1.out.keep (hd0 _), (fun e => by cases e), (fun e => by cases e), (fun e => by cases e), (fun e => by omega), (fun e => by omega), (fun e => by cases e), (fun e => by cases e), (fun e => by cases e), (fun e => by cases e), (fun e => by cases e), (fun e => by cases e), (fun e => by cases e), (fun e => by cases e), (fun e => by cases e)⟩
  · rintro ⟨k, x, y, z⟩ a W ⟨hk, _⟩ hn
    have hk' : k = 0 ∨ k = 1 ∨ k = 2 := by simp only at hk; omega
    clear hk
    rcases hk' with rfl | rfl | rfl <;> cases x <;> cases y <;> cases z <;> first | exact absurd rfl hn | exact ⟨by kernel_rfl, by decide⟩
  · rintro ⟨k, x, y, z⟩ a W ⟨hk, nb, cb, pb, bq, sq, rfl, hst⟩ hn i hi
    clear hn
    simp only [rdy, List.mem_append] at hi hst hk ⊢
    have HS := Lib.hid hst
    clear hst
    rcases hi with hi | hi | hi | hi
    · cases x with
      | true => simp at hi
      | false =>
        obtain rfl : i = 2 := by simpa using hi
        refine op_step rfl (fun K hK => ?_)
        simp only [act]
        go_simp
        exact hK.out _ _ ⟨(k, true, y, z), rfl, left_one _ _ _, HS.out.new1.geo, hk, W.heap.size, cb, pb, bq, sq, rfl, HS.out.new1⟩
    · cases y with
      | true => simp at hi
      | false =>
        obtain rfl : i = 5 := by simpa using hi
        refine op_step rfl (fun K hK => ?_)
        simp only [act]
        go_simp
        exact hK.out _ _ ⟨(k, x, true, z), rfl, left_two _ _ _, HS.out.new2.geo, hk, nb, W.heap.size, pb, bq, sq, rfl, HS.out.new2⟩
    · have hk' : k = 0 ∨ k = 1 ∨ k = 2 := by omega
      clear hk
      rcases hk' with rfl | rfl | rfl
      · obtain rfl : i = 8 := by simpa [calls] using hi
        refine op_step rfl (fun K hK => ?_)
        simp only [act, Nat.blt, Nat.ble, on_false]
        go_simp
        go_at_call 38
        with_reducible refine (HNW.out _).mono ?_
        rintro e W' ⟨rfl, hmp, hb⟩
        exact hK.out _ _ ⟨(1, x, y, z), rfl, left_call (by omega), (HS.out.new4 hmp hb).geo, by omega, nb, cb, pb, W.heap.size, sq, rfl, HS.out.new4 hmp hb⟩
      · obtain rfl : i = 11 := by simpa [calls] using hi
        refine op_step rfl (fun K hK => ?_)
        simp only [act, Nat.blt, Nat.ble, on_true, on_false]
        go_simp
        go_at_call 38
        with_reducible refine (HNW.out _).mono ?_
        rintro e W' ⟨rfl, hmp, hb⟩
        exact hK.out _ _ ⟨(2, x, y, z), rfl, left_call (by omega), (HS.out.new5 hmp hb).geo, by omega, nb, cb, pb, bq, W.heap.size, rfl, HS.out.new5 hmp hb⟩
      · simp [calls] at hi
    · cases z with
      | true => simp at hi
      | false =>
        obtain rfl : i = 14 := by simpa using hi
        refine op_step rfl (fun K hK => ?_)
        simp only [act]
        go_simp
        exact hK.out _ _ ⟨(k, x, y, true), rfl, left_three _ _ _, HS.out.new3.geo, hk, nb, cb, W.heap.size, bq, sq, rfl, HS.out.new3⟩
  · rintro ⟨k, x, y, z⟩ a V ⟨hk, nb, cb, pb, bq, sq, rfl, hst⟩ hn
    obtain ⟨rfl, rfl, rfl, rfl⟩ := left_pos hk hn
    clear hk hn
    have HS := Lib.hid hst
    clear hst
    simp only [act, Nat.blt, Nat.ble, on_true]
    refine wpAnyH_ready (rs := [15]) (by kernel_rfl) (by simp) ?_
    refine AllReadyH.cons rfl (fun K hK => ?_) AllReadyH.nil
    go_simp
    refine hK.out _ _ HS.out.geo (fun _ => ?_)
    clear hK K
    refine wpAnyH_ready (rs := [16]) (by kernel_rfl) (by simp) ?_
    refine AllReadyH.cons rfl (fun K hK => ?_) AllReadyH.nil
    go_simp
    have hal := (Below.refl V.heap.size V).alloc (Nat.le_refl _) (.cells #[.slice (some ⟨nb, 0, none⟩) m m, .slice (some ⟨cb, 0, none⟩) m m, .pointer (some ⟨bq + 1, 0, none⟩), .pointer (some ⟨sq + 1, 0, none⟩), .slice (some ⟨pb, 0, none⟩) n n] 92)
    have HA := Lib.hid (HS.out.keep hal)
    refine hK.out _ _ HA.out.geo (fun _ => ?_)
    clear hK K
    refine wpAnyH_ready (rs := [17]) (by kernel_rfl) (by simp) ?_
    refine AllReadyH.cons rfl (fun K hK => ?_) AllReadyH.nil
    go_simp
    refine hK.out _ _ HA.out.geo (fun _ => ?_)
    clear hK K
    refine wpAnyH_done (by kernel_rfl) ?_ _
    have HP := Lib.hid (made HS.out (by have := HNM.out; omega))
    have HBL := Lib.hid HA.out.below
    clear hal HS
    generalize V.alloc (.cells #[.slice (some ⟨nb, 0, none⟩) m m, .slice (some ⟨cb, 0, none⟩) m m, .pointer (some ⟨bq + 1, 0, none⟩), .pointer (some ⟨sq + 1, 0, none⟩), .slice (some ⟨pb, 0, none⟩) n n] 92) = w4 at *
    generalize V.heap.size = cc at *
    have c1 := HA.out.geo.cell 1
    have cl := HA.out.geo.lt
    go_wp2_with fail
    clear c1 cl hmk0 hmk1 hmk2 HNW HA
    obtain ⟨PP, hPP⟩ : ∃ PP : Pc, PP = ⟨w.heap.size, nb, cb, bq, bq + 1, sq, sq + 1, pb, cc, (n + 63) / 64, (n + 63) / 64⟩ := ⟨_, rfl⟩
    have hP := HP.out
    have hcc : cc = PP.c := by rw [hPP]
    have hlo : PP.lo = w.heap.size := by rw [hPP]
    rw [← hPP] at hP
    have HPQ := Lib.hid hP
    clear HP
    subst hcc
    have HLO := Lib.hid hlo
    clear hP hPP hlo
    go_loopw [28] (fun q wr => ∃ (L : List Cl) (N C X : Array Value), L.length ≤ m ∧ q = .int .i64 (L.length : Int) ∧ scn (gi W n m s) L.length = some L ∧ Cq wr PP n m L N C X ∧ Below w.heap.size w wr) (fun q _ => m - (intOf q).toNat)
    case atStart => exact ⟨[], _, _, _, Nat.zero_le _, rfl, rfl, HPQ.out, HBL.out⟩
    case round =>
      obtain ⟨L, N, C, X, hle, rfl, hsc, hcq, hb⟩ := hrel
      clear HPQ HBL
      have HSC := Lib.hid hsc
      have HCQ := Lib.hid hcq
      have HBB := Lib.hid hb
      have hok := (scn_oks (fun _ _ h => gi_ok h) hsc).1
      by_cases hlt : L.length < m
      · have HTK := Lib.hid (take_any (HV.out.keep hb) hcq hok hlt)
        clear hsc hcq hb hok
        have hmi : (L.length : Int) < (m : Int) := by omega
        go_wp2_with fail
        refine HTK.out.mono ?_
        rintro r w5 k5
        unfold TkTo at k5
        rw [HLO.out] at k5
        rcases k5 with ⟨h1, rfl, h3⟩ | ⟨c, N', C', X', h1, h2, h3, rfl, h5, h6⟩
        · have HN := Lib.hid (scn_stop HSC.out h1 hlt)
          have HB5 := Lib.hid (HBB.out.trans h3)
          clear h1 h3
          go_wp2
          go_ret2
          exact .inl ⟨HN.out, rfl, HB5.out⟩
        · have HN := Lib.hid (scn_next HSC.out h1 h2 h3)
          have HB5 := Lib.hid (HBB.out.trans h6)
          have HQ5 := Lib.hid h5
          clear h1 h2 h3 h5 h6
          go_wp2
          have e : (L ++ [c]).length = L.length + 1 := by simp
          refine ⟨⟨L ++ [c], N', C', X', by omega, by rw [e]; go_num, by rw [e]; exact HN.out, HQ5.out, HB5.out⟩, by simp [intOf]; omega⟩
      · obtain rfl : m = L.length := by omega
        go_wp2
        go_ret2
        exact .inr ⟨L, PP, N, C, X, HSC.out, rfl, HCQ.out, by rw [HLO.out]; exact Nat.le_refl _, HBB.out⟩
end
end Clm
end Go.Proofs.YtilolepbfmcbgaaGreatDoor
/- What claims tell: Inode, Owner, Free, Blocks, Slots, NextInode. -/
namespace Go.Proofs.YtilolepbfmcbgaaGreatDoor
open Go.RowKit Go.MapKept
namespace Clm
open Chn (Pt New Prt slots Mays tot blk blk_len)
open Vol (Vo Hb hb_new)
open Pack (Nts)

section
variable {w : World} {P : Pc} {n m : Nat} {L : List Cl} {N C X : Array Value}
theorem chas_any {fb fs : Nat → Bool} (h : Cr w P n m N C X fb fs) (i : Int) : Calls Tryz.prog 52 #[.pointer (some ⟨P.c, 0, none⟩), .int .i64 i] w fun r w' => r = .returned (.bool (decide (0 ≤ i ∧ i < (m : Int)))) ∧ Below w.heap.size w w' := by
  have c0 := h.claim.cell 0
  have cl := h.lt
  clear h
  go_enter Tryz.func52, Tryz.ntmps52
  by_cases h0 : 0 ≤ i
  · by_cases h1 : i < (m : Int)
    · go_wp2
      go_ret
      exact ⟨by simp [h0, h1], Below.refl _ _⟩
    · go_wp2
      go_ret
      exact ⟨by simp [h1], Below.refl _ _⟩
  · go_wp2
    go_ret
    exact ⟨by rw [decide_eq_false (show ¬ (0 : Int) ≤ i by omega)]; rfl, Below.refl _ _⟩
set_option maxHeartbeats 1000000 in
theorem inode_yes (h : Cq w P n m L N C X) (hL : L.length = m) (i : Nat) (hi : i < L.length) : Calls Tryz.prog 17 #[.pointer (some ⟨P.c, 0, none⟩), .int .i64 (i : Int)] w fun r w' => r = .returned (.agg #[.int .i64 (L[i].k : Int), .int .i64 ((L[i].p : Int) - 1), .int .i64 (L[i].z : Int)]) ∧ Below w.heap.size w w' := by
  have hc := fun w' (hb : Below w.heap.size w w') => chas_any (h.cr.keep hb) (i : Int)
  have H := Lib.hid h
  obtain ⟨k0, k1, k2⟩ := h.nod i hi
  have hm : i < m := by omega
  clear h hL
  generalize L[i] = c at *
  obtain ⟨ck, cp, cz, cl⟩ := c
  simp only at k0 k1 k2 ⊢
  generalize (cp : Int) - 1 = hd at *
  have hdec : decide ((0 : Int) ≤ (i : Int) ∧ (i : Int) < (m : Int)) = true := decide_eq_true (by omega)
  rw [hdec] at hc
  have HC := Lib.hid hc
  clear hdec hc
  have HX := Lib.hid (hb_new w #[.int .i64 0, .int .i64 0, .int .i64 0] 58)
  have HB0 := Lib.hid ((Below.refl w.heap.size w).alloc (Nat.le_refl _) (.cells #[.int .i64 0, .int .i64 0, .int .i64 0] 58))
  go_enter Tryz.func17, Tryz.ntmps17
  go_wp2_with fail
  generalize w.alloc (.cells #[.int .i64 0, .int .i64 0, .int .i64 0] 58) = w0 at *
  refine (HC.out _ HB0.out).mono ?_
  rintro r w1 ⟨rfl, hb⟩
  have HB := Lib.hid (HB0.out.trans (hb.mono HB0.out.size))
  have hx := HX.out.keep hb
  have h1 := H.out.keep HB.out
  have c0 := h1.cr.claim.cell 0
  have cl' := h1.cr.lt
  have n0 := (h1.cr.nodes.cell (i * 3)).trans k0
  have n1 := (h1.cr.nodes.cell (i * 3 + 1)).trans k1
  have n2 := (h1.cr.nodes.cell (i * 3 + 2)).trans k2
  have nl := h1.cr.nodes.lt
  have x0 := hx.cell 0
  have x1 := hx.cell 1
  have x2 := hx.cell 2
  have f0 := hx.frozen 0
  have f1 := hx.frozen 1
  have f2 := hx.frozen 2
  have xl := hx.lt
  clear hb h1 HC hx
  go_wp2
  refine bodyPost_ret (v := .agg #[.int .i64 (ck : Int), .int .i64 hd, .int .i64 (cz : Int)]) ?_ rfl ⟨rfl, ?_⟩
  · simp [results, Tryz.results17, go_sem, x0, x1, x2]
  · exact ((HB.out.setCell (p := ⟨w.heap.size, 0, none⟩) (Nat.le_refl _) _).setCell (p := ⟨w.heap.size, 1, none⟩) (Nat.le_refl _) _).setCell (p := ⟨w.heap.size, 2, none⟩) (Nat.le_refl _) _
set_option maxHeartbeats 1000000 in
theorem inode_no (h : Cq w P n m L N C X) (i : Int) (hi : i < 0 ∨ (m : Int) ≤ i) : Calls Tryz.prog 17 #[.pointer (some ⟨P.c, 0, none⟩), .int .i64 i] w fun r w' => r = .returned (.agg #[.int .i64 0, .int .i64 (-1), .int .i64 0]) ∧ Below w.heap.size w w' := by
  have hc := fun w' (hb : Below w.heap.size w w') => chas_any (h.cr.keep hb) i
  have HN := Lib.hid (fun w => Ino.none_any w)
  have hdec : decide ((0 : Int) ≤ i ∧ i < (m : Int)) = false := decide_eq_false (by omega)
  rw [hdec] at hc
  have HC := Lib.hid hc
  clear hdec h hi hc
  have HX := Lib.hid (hb_new w #[.int .i64 0, .int .i64 0, .int .i64 0] 58)
  have HB0 := Lib.hid ((Below.refl w.heap.size w).alloc (Nat.le_refl _) (.cells #[.int .i64 0, .int .i64 0, .int .i64 0] 58))
  go_enter Tryz.func17, Tryz.ntmps17
  go_wp2_with fail
  generalize w.alloc (.cells #[.int .i64 0, .int .i64 0, .int .i64 0] 58) = w0 at *
  refine (HC.out _ HB0.out).mono ?_
  rintro r w1 ⟨rfl, hb⟩
  have HB := Lib.hid (HB0.out.trans (hb.mono HB0.out.size))
  have HX1 := Lib.hid (HX.out.keep hb)
  clear hb HC
  go_wp2_with fail
  refine (HN.out _).mono ?_
  rintro r w2 ⟨rfl, hb⟩
  have HB2 := Lib.hid (HB.out.trans (hb.mono HB.out.size))
  have hx := HX1.out.keep hb
  have x0 := hx.cell 0
  have x1 := hx.cell 1
  have x2 := hx.cell 2
  have f0 := hx.frozen 0
  have f1 := hx.frozen 1
  have f2 := hx.frozen 2
  have xl := hx.lt
  clear hb HB hx
  go_wp2
  refine bodyPost_ret (v := .agg #[.int .i64 0, .int .i64 (-1), .int .i64 0]) ?_ rfl ⟨rfl, ?_⟩
  · simp [results, Tryz.results17, go_sem, x0, x1, x2]
  · exact ((HB2.out.setCell (p := ⟨w.heap.size, 0, none⟩) (Nat.le_refl _) _).setCell (p := ⟨w.heap.size, 1, none⟩) (Nat.le_refl _) _).setCell (p := ⟨w.heap.size, 2, none⟩) (Nat.le_refl _) _
theorem drewN_below (w : World) (k : Nat) : Below w.heap.size w (w.drewN k) := ⟨rfl, rfl, rfl, Nat.le_refl _, fun _ _ => rfl⟩
set_option maxHeartbeats 1000000 in
theorem owner_no (h : Cq w P n m L N C X) (b : Int) (hb : b < 0 ∨ b.toNat ∉ bl L) : Calls Tryz.prog 47 #[.pointer (some ⟨P.c, 0, none⟩), .int .i64 b] w fun r w' => r = .returned (.tuple #[.int .i64 (-1), .int .i64 (-1)]) ∧ Below w.heap.size w w' := by
  have hh := Bm.has_any h.cr.bm b
  have e : Bm.hs (ins (bl L)) b = false := by
    unfold Bm.hs ins
    rcases hb with hb | hb
    · simp; omega
    · simp [hb]
  rw [e] at hh
  have HH := Lib.hid hh
  have c2 := h.cr.claim.cell 2
  have cl := h.cr.lt
  clear hh e hb h
  go_enter Tryz.func47, Tryz.ntmps47
  go_wp2_with fail
  refine HH.out.mono ?_
  rintro r w1 ⟨rfl, k, rfl⟩
  go_wp2
  go_ret2
  exact ⟨rfl, drewN_below w k⟩
set_option maxHeartbeats 1000000 in
theorem owner_yes (h : Cq w P n m L N C X) (i k b : Nat) (ho : Own L i k b) (hb : b < n) : Calls Tryz.prog 47 #[.pointer (some ⟨P.c, 0, none⟩), .int .i64 (b : Int)] w fun r w' => r = .returned (.tuple #[.int .i64 (i : Int), .int .i64 (k : Int)]) ∧ Below w.heap.size w w' := by
  have hh := Bm.has_any h.cr.bm (b : Int)
  have e : Bm.hs (ins (bl L)) (b : Int) = true := by
    rw [Bm.hs_nat]
    exact decide_eq_true (own_mem ho)
  rw [e] at hh
  have HH := Lib.hid hh
  obtain ⟨k0, k1⟩ := h.plc i k b ho
  have c2 := h.cr.claim.cell 2
  have c4 := h.cr.claim.cell 4
  have cl := h.cr.lt
  have x0 := (h.cr.places.cell (b * 2)).trans k0
  have x1 := (h.cr.places.cell (b * 2 + 1)).trans k1
  have xl := h.cr.places.lt
  clear hh e h ho k0 k1
  go_enter Tryz.func47, Tryz.ntmps47
  go_wp2_with fail
  refine HH.out.mono ?_
  rintro r w1 ⟨rfl, q, rfl⟩
  have HB := Lib.hid (drewN_below w q)
  have c4 := (HB.out.cell (p := ⟨P.c, 4, none⟩) cl).trans c4
  have x0 := (HB.out.cell (p := ⟨P.pb, b * 2, none⟩) xl).trans x0
  have x1 := (HB.out.cell (p := ⟨P.pb, b * 2 + 1, none⟩) xl).trans x1
  have cl := Nat.lt_of_lt_of_le cl HB.out.size
  have xl := Nat.lt_of_lt_of_le xl HB.out.size
  generalize w.drewN q = w1 at *
  go_wp2_with fail
  go_region
  go_wp2
  go_ret2
  exact ⟨rfl, HB.out.trans ((drewN_below w1 1).mono HB.out.size)⟩
set_option maxHeartbeats 1000000 in
theorem cblocks_any (h : Cq w P n m L N C X) : Calls Tryz.prog 23 #[.pointer (some ⟨P.c, 0, none⟩)] w (Bm.Cpy w ((n + 63) / 64) n (ins (bl L))) := by
  have HH := Lib.hid (Bm.copy_any h.cr.bm)
  have c2 := h.cr.claim.cell 2
  have cl := h.cr.lt
  clear h
  go_enter Tryz.func23, Tryz.ntmps23
  go_wp2_with fail
  refine HH.out.mono ?_
  rintro r w1 ⟨p, q, C', rfl, k⟩
  go_wp2
  go_ret
  exact ⟨p, q, C', rfl, k⟩
set_option maxHeartbeats 1000000 in
theorem cslots_any (h : Cq w P n m L N C X) : Calls Tryz.prog 25 #[.pointer (some ⟨P.c, 0, none⟩)] w (Bm.Cpy w ((n + 63) / 64) n (ins (sl L))) := by
  have HH := Lib.hid (Bm.copy_any h.cr.sm)
  have c2 := h.cr.claim.cell 3
  have cl := h.cr.lt
  clear h
  go_enter Tryz.func25, Tryz.ntmps25
  go_wp2_with fail
  refine HH.out.mono ?_
  rintro r w1 ⟨p, q, C', rfl, k⟩
  go_wp2
  go_ret
  exact ⟨p, q, C', rfl, k⟩
end
end Clm
end Go.Proofs.YtilolepbfmcbgaaGreatDoor
/- A claim's chain, copied. -/
namespace Go.Proofs.YtilolepbfmcbgaaGreatDoor
open Go.RowKit Go.MapKept
namespace Clm
open Chn (Pt New Prt slots slots_len pcells pcells_len pcells_get Mays tot blk blk_len part_info own_keep3)
open Vol (Vo Hb hb_new hb_grown)
open Pack (Nts int_info i64s)

theorem nts_news {W : World} {ad : Addr} {l : List Int} (h : Nts W (some ad) l) : ∀ j u, (i64s l)[j]? = some u → W.cell? (ad.add j) = some u := by
  intro j u hu
  have hj : j < l.length := by
    have := (List.getElem?_eq_some_iff.1 hu).1
    simpa [i64s] using this
  obtain ⟨b, o, e, _, hc⟩ := h.at' j hj
  injection e with e
  subst e
  rw [Go.WideShapes.add_plain, hc, ← hu]
  simp [i64s, List.getElem?_eq_getElem hj]
theorem i64s_one (l : List Int) : ∀ u ∈ i64s l, u.oneCell' = true := by
  intro u hu
  obtain ⟨x, _, rfl⟩ := List.mem_map.1 hu
  rfl
theorem prt_news {W : World} {ad : Addr} {l : List Pt} (h : Prt W (some ad) l) : ∀ j u, (pcells l)[j]? = some u → W.cell? (ad.add j) = some u := by
  intro j u hu
  have hj : j < l.length * 3 := by
    have := (List.getElem?_eq_some_iff.1 hu).1
    rwa [pcells_len] at this
  have hq : j / 3 < l.length := by omega
  obtain ⟨b, o, e, _, hc0, hc1, hc2⟩ := h.at' (j / 3) hq
  injection e with e
  subst e
  rw [Go.WideShapes.add_plain]
  obtain ⟨g0, g1, g2⟩ := pcells_get hq
  have hr : j % 3 = 0 ∨ j % 3 = 1 ∨ j % 3 = 2 := by omega
  rcases hr with hr | hr | hr
  · have e : j = j / 3 * 3 := by omega
    rw [← e] at g0
    rw [hu] at g0
    rw [e, hc0, g0]
  · have e : j = j / 3 * 3 + 1 := by omega
    rw [← e] at g1
    rw [hu] at g1
    rw [e, ← Nat.add_assoc, hc1, g1]
  · have e : j = j / 3 * 3 + 2 := by omega
    rw [← e] at g2
    rw [hu] at g2
    rw [e, ← Nat.add_assoc, hc2, g2]
theorem pcells_one (l : List Pt) : ∀ u ∈ pcells l, u.oneCell' = true := by
  intro u hu
  obtain ⟨x, _, hx⟩ := List.mem_flatMap.1 hu
  simp only [List.mem_cons, List.not_mem_nil, or_false] at hx
  rcases hx with rfl | rfl | rfl <;> rfl

/-- a row of the call's own -/
def Cln (w : World) (t : TypeId) (s n : Nat) (xs : List Value) (e : Ending) (w' : World) : Prop :=
  ∃ (G : Option Addr) (gc : Nat), e = .returned (.slice G n gc) ∧ w'.ownsRow w.heap.size t s (.slice G n gc) n xs ∧ Below w.heap.size w w'
set_option maxRecDepth 100000 in
set_option maxHeartbeats 1000000 in
theorem clone_ints (w : World) (A : Option Addr) (c : Nat) (l : List Int) (h : Nts w A l) (hl : l.length ≤ 1000000) :
    Calls Tryz.prog 53 #[.slice A l.length c] w (Cln w 3 1 l.length (i64s l)) := by
  have q40 : ∀ (w : World) (a : Option Addr) (n c n' c' : Nat), (binOp .eql 50 (.slice a n c) (.slice none n' c')).run Tryz.prog w = .ok (.bool a.isNone) w := fun w a n c n' c' => Lib.run_eql_slice_nil w _ _ a n c n' c' Tryz.underlying50
  cases A with
  | none =>
    have hl0 : l = [] := by
      cases l with
      | nil => rfl
      | cons b l =>
        obtain ⟨_, _, e, _⟩ := h.at' 0 (by simp)
        cases e
    subst hl0
    clear h
    go_enter Tryz.func53, Tryz.ntmps53
    go_wp2
    go_ret
    exact ⟨none, 0, rfl, World.ownsRow_nil .., Below.refl _ _⟩
  | some ad =>
    obtain ⟨i0, hi0, hz0, hz1, hz2⟩ := info_parts int_info
    have hown : (w.alloc (.cells #[] 3)).ownsRow w.heap.size 3 1 (.slice (some ⟨w.heap.size, 0, none⟩) 0 0) 0 [] := World.ownsRow_made w #[] 0 (Nat.le_refl _) (by unfold maxLen; omega) rfl
    have hb := (Below.refl w.heap.size w).alloc (Nat.le_refl _) (.cells #[] 3)
    have HNS := Lib.hid (nts_news (h.keep hb))
    have HB := Lib.hid hb
    have HO := Lib.hid hown
    clear h hown hb
    go_enter Tryz.func53, Tryz.ntmps53
    go_wp2_with (at_builtin
                 refine wpList_append_own_at _ rfl (.tmp 5) (.tmp 6) 50 rfl w.heap.size 3 i0 (.int .i64 0) 1 8 Tryz.underlying50 hi0 hz0 hz1 hz2 rfl (by decide) (.slice (some ⟨w.heap.size, 0, none⟩) 0 0) 0 [] rfl HO.out ad l.length c (i64s l) rfl (by simp [i64s]) HNS.out (i64s_one l) (by unfold maxLen; omega) (by omega) (by simp) ?_
                 intro v6 w6 hown6 hgr6 _ _
                 rw [Nat.zero_add, List.nil_append] at hown6
                 obtain ⟨G6, c6, rfl⟩ := Pack.row_slice hown6
                 have HB6 := Lib.hid (HB.out.grown hgr6 (by simp) (fun k hk => Chn.row_base_lt3 HO.out hk))
                 have HO6 := Lib.hid hown6
                 clear hown6 hgr6)
    go_ret
    exact ⟨G6, c6, rfl, HO6.out, HB6.out⟩
set_option maxRecDepth 100000 in
set_option maxHeartbeats 1000000 in
theorem clone_parts (w : World) (A : Option Addr) (c : Nat) (l : List Pt) (h : Prt w A l) (hl : l.length ≤ 1000000) :
    Calls Tryz.prog 54 #[.slice A l.length c] w (Cln w 74 3 l.length (pcells l)) := by
  have q40 : ∀ (w : World) (a : Option Addr) (n c n' c' : Nat), (binOp .eql 61 (.slice a n c) (.slice none n' c')).run Tryz.prog w = .ok (.bool a.isNone) w := fun w a n c n' c' => Lib.run_eql_slice_nil w _ _ a n c n' c' Tryz.underlying61
  cases A with
  | none =>
    have hl0 : l = [] := by
      cases l with
      | nil => rfl
      | cons b l =>
        obtain ⟨_, _, e, _⟩ := h.at' 0 (by simp)
        cases e
    subst hl0
    clear h
    go_enter Tryz.func54, Tryz.ntmps54
    go_wp2
    go_ret
    exact ⟨none, 0, rfl, World.ownsRow_nil .., Below.refl _ _⟩
  | some ad =>
    obtain ⟨i0, hi0, hz0, hz1, hz2⟩ := info_parts part_info
    have hown : (w.alloc (.cells #[] 74)).ownsRow w.heap.size 74 3 (.slice (some ⟨w.heap.size, 0, none⟩) 0 0) 0 [] := World.ownsRow_made w #[] 0 (Nat.le_refl _) (by unfold maxLen; omega) rfl
    have hb := (Below.refl w.heap.size w).alloc (Nat.le_refl _) (.cells #[] 74)
    have HNS := Lib.hid (prt_news (h.keep hb))
    have HB := Lib.hid hb
    have HO := Lib.hid hown
    clear h hown hb
    go_enter Tryz.func54, Tryz.ntmps54
    go_wp2_with (at_builtin
                 refine wpList_append_own_at _ rfl (.tmp 5) (.tmp 6) 61 rfl w.heap.size 74 i0 (.agg #[.int .i64 0, .int .i64 0, .int .i64 0]) 3 24 Tryz.underlying61 hi0 hz0 hz1 hz2 rfl (by decide) (.slice (some ⟨w.heap.size, 0, none⟩) 0 0) 0 [] rfl HO.out ad l.length c (pcells l) rfl (pcells_len l) HNS.out (pcells_one l) (by unfold maxLen; omega) (by omega) (by simp) ?_
                 intro v6 w6 hown6 hgr6 _ _
                 rw [Nat.zero_add, List.nil_append] at hown6
                 obtain ⟨G6, c6, rfl⟩ := Chn.row_slice3 hown6
                 have HB6 := Lib.hid (HB.out.grown hgr6 (by simp) (fun k hk => Chn.row_base_lt3 HO.out hk))
                 have HO6 := Lib.hid hown6
                 clear hown6 hgr6)
    go_ret
    exact ⟨G6, c6, rfl, HO6.out, HB6.out⟩

section
variable {w : World} {P : Pc} {n m : Nat} {L : List Cl} {N C X : Array Value}
set_option maxHeartbeats 1000000 in
theorem chain_no (h : Cq w P n m L N C X) (i : Int) (hi : i < 0 ∨ (m : Int) ≤ i) : Calls Tryz.prog 19 #[.pointer (some ⟨P.c, 0, none⟩), .int .i64 i] w fun r w' => r = .returned (.agg #[.slice none 0 0, .slice none 0 0]) ∧ Below w.heap.size w w' := by
  have hc := fun w' (hb : Below w.heap.size w w') => chas_any (h.cr.keep hb) i
  have hdec : decide ((0 : Int) ≤ i ∧ i < (m : Int)) = false := decide_eq_false (by omega)
  rw [hdec] at hc
  have HC := Lib.hid hc
  clear hdec h hi hc
  have HX := Lib.hid (hb_new w #[.slice none 0 0, .slice none 0 0] 63)
  have HB0 := Lib.hid ((Below.refl w.heap.size w).alloc (Nat.le_refl _) (.cells #[.slice none 0 0, .slice none 0 0] 63))
  go_enter Tryz.func19, Tryz.ntmps19
  go_wp2_with fail
  generalize w.alloc (.cells #[.slice none 0 0, .slice none 0 0] 63) = w0 at *
  refine (HC.out _ HB0.out).mono ?_
  rintro r w1 ⟨rfl, hb⟩
  have HB := Lib.hid (HB0.out.trans (hb.mono HB0.out.size))
  have hx := HX.out.keep hb
  have x0 := hx.cell 0
  have x1 := hx.cell 1
  have f0 := hx.frozen 0
  have f1 := hx.frozen 1
  have xl := hx.lt
  clear hb hx
  go_wp2
  refine bodyPost_ret (v := .agg #[.slice none 0 0, .slice none 0 0]) ?_ rfl ⟨rfl, ?_⟩
  · simp [results, Tryz.results19, go_sem, x0, x1]
  · exact (HB.out.setCell (p := ⟨w.heap.size, 0, none⟩) (Nat.le_refl _) _).setCell (p := ⟨w.heap.size, 1, none⟩) (Nat.le_refl _) _
theorem own_base {w : World} {B B' n s : Nat} {e : TypeId} {v : Value} {xs : List Value} (h : w.ownsRow B e s v n xs) (hB : B' ≤ B) : w.ownsRow B' e s v n xs := by
  refine ⟨h.1, ?_⟩
  rcases h.2 with h0 | ⟨g, cap, cur, e, hg, hr⟩
  · exact .inl h0
  · exact .inr ⟨g, cap, cur, e, Nat.le_trans hB hg, hr⟩
/-- what Chain answers -/
def ChTo (w : World) (l : List Pt) (r : Ending) (w' : World) : Prop :=
  ∃ (A : Option Addr) (a : Nat) (D : Option Addr) (d : Nat), r = .returned (.agg #[.slice A l.length a, .slice D l.length d]) ∧ w'.ownsRow w.heap.size 3 1 (.slice A l.length a) l.length (i64s (slots l)) ∧ w'.ownsRow w.heap.size 74 3 (.slice D l.length d) l.length (pcells l) ∧ Below w.heap.size w w'
set_option maxHeartbeats 1000000 in
theorem chain_yes (h : Cq w P n m L N C X) (hL : L.length = m) (i : Nat) (hi : i < L.length) (hl : L[i].l.length ≤ 65534) : Calls Tryz.prog 19 #[.pointer (some ⟨P.c, 0, none⟩), .int .i64 (i : Int)] w (ChTo w L[i].l) := by
  have hc := fun w' (hb : Below w.heap.size w w') => chas_any (h.cr.keep hb) (i : Int)
  have H := Lib.hid h
  obtain ⟨A, a, D, d, k0, k1, k2, k3, _⟩ := h.chs i hi
  have hm : i < m := by omega
  clear h hL
  generalize L[i].l = l at *
  have hdec : decide ((0 : Int) ≤ (i : Int) ∧ (i : Int) < (m : Int)) = true := decide_eq_true (by omega)
  rw [hdec] at hc
  have HC := Lib.hid hc
  have HN := Lib.hid k2
  have HD := Lib.hid k3
  clear hdec hc k2 k3
  have HX := Lib.hid (hb_new w #[.slice none 0 0, .slice none 0 0] 63)
  have HB0 := Lib.hid ((Below.refl w.heap.size w).alloc (Nat.le_refl _) (.cells #[.slice none 0 0, .slice none 0 0] 63))
  go_enter Tryz.func19, Tryz.ntmps19
  go_wp2_with fail
  generalize w.alloc (.cells #[.slice none 0 0, .slice none 0 0] 63) = w0 at *
  refine (HC.out _ HB0.out).mono ?_
  rintro r w1 ⟨rfl, hb⟩
  have HB := Lib.hid (HB0.out.trans (hb.mono HB0.out.size))
  have HX1 := Lib.hid (HX.out.keep hb)
  have h1 := H.out.keep HB.out
  have c1 := h1.cr.claim.cell 1
  have cl := h1.cr.lt
  have n0 := (h1.cr.chains.cell (i * 2)).trans k0
  have n1 := (h1.cr.chains.cell (i * 2 + 1)).trans k1
  have nl := h1.cr.chains.lt
  clear hb h1 HC
  go_wp2_with fail
  clear k0 k1 c1 cl n0 n1 nl
  have hal := (Below.refl w1.heap.size w1).alloc (Nat.le_refl _) (.cells #[.slice A l.length a, .slice D l.length d] 63)
  have HB2 := Lib.hid (HB.out.trans (hal.mono HB.out.size))
  have HR2 := Lib.hid (HX1.out.keep hal)
  have HX2 := Lib.hid (hb_new w1 #[.slice A l.length a, .slice D l.length d] 63)
  have HX1l := HX1.out.lt
  clear hal HX1 HB
  generalize w1.alloc (.cells #[.slice A l.length a, .slice D l.length d] 63) = w2 at *
  have HNE := Lib.hid (show w1.heap.size ≠ w.heap.size by have := HX1l; omega)
  clear HX1l
  generalize w1.heap.size = lb at *
  clear w1
  have hd0 : ∀ W : World, Below W.heap.size W W.drew := fun W => ⟨rfl, rfl, rfl, Nat.le_refl _, fun _ _ => rfl⟩
  have hsl : (slots l).length = l.length := slots_len l
  have hci := clone_ints w2.drew A a (slots l) (HN.out.keep (HB2.out.trans ((hd0 w2).mono HB2.out.size))) (by omega)
  rw [hsl] at hci
  have HCI := Lib.hid hci
  have HCP := Lib.hid (fun w' (hb : Below w.heap.size w w') => clone_parts w' D d l (HD.out.keep hb) (by omega))
  have x0 := HX2.out.cell 0
  have x1 := HX2.out.cell 1
  have xl := HX2.out.lt
  clear hci hsl
  have r0 := HR2.out.cell 0
  have r1 := HR2.out.cell 1
  have rf0 := HR2.out.frozen 0
  have rf1 := HR2.out.frozen 1
  have rl := HR2.out.lt
  go_region_held3 (fun W' => W'.cell? ⟨lb, 0, none⟩ = some (.slice A l.length a) ∧ W'.cell? ⟨lb, 1, none⟩ = some (.slice D l.length d)) (go_keep)
    (first
    | (go_at_call 53
       with_reducible refine HCI.out.mono ?_
       rintro r w3 ⟨G, gc, rfl, ho, hb⟩
       have HB3 := Lib.hid (HB2.out.trans (((hd0 w2).trans (hb.mono (hd0 w2).size)).mono HB2.out.size))
       have HX3 := Lib.hid (HX2.out.keep ((hd0 w2).trans (hb.mono (hd0 w2).size)))
       have HR3 := Lib.hid (HR2.out.keep ((hd0 w2).trans (hb.mono (hd0 w2).size)))
       have HO3 := Lib.hid (own_base ho (show w.heap.size ≤ w2.drew.heap.size from HB2.out.size))
       have HCP3 := Lib.hid (HCP.out w3 HB3.out)
       have y0 := HX3.out.cell 0
       have y1 := HX3.out.cell 1
       clear ho hb)
    | (go_at_call 54
       with_reducible refine HCP3.out.mono ?_
       rintro r w4 ⟨G', gc', rfl, ho, hb⟩
       have HB4 := Lib.hid (HB3.out.trans (hb.mono HB3.out.size))
       have HX4 := Lib.hid (HX3.out.keep hb)
       have HR4 := Lib.hid (HR3.out.keep hb)
       have HO4 := Lib.hid (own_keep3 HO3.out hb)
       have HQ4 := Lib.hid (own_base ho HB3.out.size)
       have z0 := HX4.out.cell 0
       have z1 := HX4.out.cell 1
       have e0 := HR4.out.cell 0
       have e1 := HR4.out.cell 1
       have ef0 := HR4.out.frozen 0
       have ef1 := HR4.out.frozen 1
       have el := HR4.out.lt
       have hx9 := (HX4.out.far (p := ⟨w.heap.size, 0, none⟩) HNE.out (.slice G l.length gc)).far (p := ⟨w.heap.size, 1, none⟩) HNE.out (.slice G' l.length gc')
       have i0 := hx9.cell 0
       have i1 := hx9.cell 1
       clear ho hb hx9))
  go_wp2
  have hB0 := HR4.out.set 0 (.slice G l.length gc)
  refine bodyPost_ret (v := .agg #[.slice G l.length gc, .slice G' l.length gc']) ?_ rfl ⟨G, gc, G', gc', rfl, ?_, ?_, ?_⟩
  · simp [results, Tryz.results19, go_sem, e0, e1]
  · exact Chn.own_far (i := 1) (Chn.own_far (i := 0) HO4.out HR4.out (by decide) (.slice G l.length gc)) hB0 (by decide) (.slice G' l.length gc')
  · exact Chn.own_far (i := 1) (Chn.own_far (i := 0) HQ4.out HR4.out (by decide) (.slice G l.length gc)) hB0 (by decide) (.slice G' l.length gc')
  · exact (HB4.out.setCell (p := ⟨w.heap.size, 0, none⟩) (Nat.le_refl _) _).setCell (p := ⟨w.heap.size, 1, none⟩) (Nat.le_refl _) _
end
end Clm
end Go.Proofs.YtilolepbfmcbgaaGreatDoor
/- What claims tell: Used, NextInode. -/
namespace Go.Proofs.YtilolepbfmcbgaaGreatDoor
open Go.RowKit Go.MapKept
namespace Clm
open Chn (Pt New Prt slots Mays tot blk blk_len row_cap3 own_new own_keep3 row_base_lt3)
open Vol (Vo Hb hb_new hb_grown hb_apart)
open Pack (Nts int_info i64s)

/-- an inode's kind -/
def kd (L : List Cl) (i : Nat) : Nat := (L[i]?.map Cl.k).getD 0
theorem kd_get {L : List Cl} {i : Nat} (h : i < L.length) : kd L i = L[i].k := by simp [kd, List.getElem?_eq_getElem h]
/-- the used ones of the first t -/
def ut (L : List Cl) (t : Nat) : List Nat := (List.range t).filter fun i => kd L i != 0
theorem ut_no {L : List Cl} {t : Nat} (h : kd L t = 0) : ut L (t + 1) = ut L t := by simp [ut, List.range_succ, List.filter_append, h]
theorem ut_yes {L : List Cl} {t : Nat} (h : kd L t ≠ 0) : ut L (t + 1) = ut L t ++ [t] := by simp [ut, List.range_succ, List.filter_append, h]
theorem ut_len (L : List Cl) : ∀ t, (ut L t).length ≤ t
  | 0 => Nat.le_refl _
  | t + 1 => by
    have := ut_len L t
    by_cases h : kd L t = 0
    · rw [ut_no h]; omega
    · rw [ut_yes h]; simp; omega
theorem ut_lt {L : List Cl} {t : Nat} : ∀ x ∈ ut L t, x < t := fun x hx => by
  have := (List.mem_filter.1 hx).1
  exact List.mem_range.1 this
section
variable {w : World} {P : Pc} {n m : Nat} {L : List Cl} {N C X : Array Value}
set_option maxHeartbeats 4000000 in
set_option maxRecDepth 100000 in
theorem used_any (h : Cq w P n m L N C X) (hL : L.length = m) (hf : ∀ c ∈ L, c.k = 0 → c.p = 0 ∧ c.z = 0) : Calls Tryz.prog 21 #[.pointer (some ⟨P.c, 0, none⟩)] w fun r w' =>
    ∃ G gc, r = .returned (.slice G (ut L m).length gc) ∧ Nts w' G ((ut L m).map Int.ofNat) ∧ Below w.heap.size w w' := by
  obtain ⟨i0, hi0, hz0, hz1, hz2⟩ := info_parts int_info
  have H := Lib.hid h
  have HF := Lib.hid hf
  have hm := h.cr.max
  have c0 := h.cr.claim.cell 0
  have cl := h.cr.lt
  have HNN := Lib.hid (fun w => Ino.none_any w)
  have HLM := Lib.hid hL
  clear h hf hL
  go_enter Tryz.func21, Tryz.ntmps21
  go_wp2
  clear c0 cl
  go_loopw [3, 11] (fun v q wr => ∃ (t : Nat) (G : Option Addr) (gc : Nat), t ≤ m ∧ q = .int .i64 (t : Int) ∧ v = .slice G (ut L t).length gc ∧ wr.ownsRow w.heap.size 3 1 (.slice G (ut L t).length gc) (ut L t).length (i64s ((ut L t).map Int.ofNat)) ∧ Below w.heap.size w wr) (fun _ q _ => m - (intOf q).toNat)
  case atStart => exact ⟨0, none, 0, Nat.zero_le _, rfl, rfl, World.ownsRow_nil .., Below.refl _ _⟩
  case round =>
    obtain ⟨t, G, gc, ht, rfl, rfl, hrow, hb⟩ := hrel
    by_cases hlt : t < m
    · have htL : t < L.length := by have := HLM.out; omega
      obtain ⟨k0, k1, k2⟩ := H.out.nod t htL
      have HFF := Lib.hid (HF.out _ (List.getElem_mem htL))
      have HKD := Lib.hid (kd_get htL)
      generalize L[t] = c at *
      obtain ⟨ck, cp, cz, cl⟩ := c
      simp only at k0 k1 k2 HFF HKD
      have hh := H.out.keep hb
      have n0 := (hh.cr.nodes.cell (t * 3)).trans k0
      have n1 := (hh.cr.nodes.cell (t * 3 + 1)).trans k1
      have n2 := (hh.cr.nodes.cell (t * 3 + 2)).trans k2
      have nl := hh.cr.nodes.lt
      have HUL := Lib.hid (ut_len L t)
      have hti : (t : Int) < (m : Int) := by omega
      by_cases hk : ck = 0
      · subst hk
        obtain ⟨rfl, rfl⟩ := HFF.out rfl
        have HU := Lib.hid (ut_no HKD.out)
        have n0 : wr.cell? ⟨P.nb, t * 3, none⟩ = some (.int .i64 0) := n0
        have n1 : wr.cell? ⟨P.nb, t * 3 + 1, none⟩ = some (.int .i64 (-1)) := n1
        have n2 : wr.cell? ⟨P.nb, t * 3 + 2, none⟩ = some (.int .i64 0) := n2
        have hal := (Below.refl wr.heap.size wr).alloc (Nat.le_refl _) (.cells #[.int .i64 0, .int .i64 (-1), .int .i64 0] 58)
        have HX := Lib.hid (hb_new wr #[.int .i64 0, .int .i64 (-1), .int .i64 0] 58)
        have HB := Lib.hid (hb.trans (hal.mono hb.size))
        have HO := Lib.hid (own_keep3 hrow hal)
        clear hal hb hrow hh k0 k1 k2
        go_wp2
        generalize wr.alloc (.cells #[.int .i64 0, .int .i64 (-1), .int .i64 0] 58) = w1 at *
        generalize wr.heap.size = xb at *
        have x0 := HX.out.cell 0
        have x1 := HX.out.cell 1
        have x2 := HX.out.cell 2
        have xl := HX.out.lt
        go_region_held3 (fun W' => W'.cell? ⟨xb, 0, none⟩ = some (.int .i64 0) ∧ W'.cell? ⟨xb, 1, none⟩ = some (.int .i64 (-1)) ∧ W'.cell? ⟨xb, 2, none⟩ = some (.int .i64 0)) (go_keep)
          (first
          | (go_at_call 18
             with_reducible refine (HNN.out _).mono ?_
             rintro r w2 ⟨rfl, hb⟩
             have HB2 := Lib.hid (HB.out.trans (((drewN_below w1 1).trans (hb.mono (drewN_below w1 1).size)).mono HB.out.size))
             have HO2 := Lib.hid (own_keep3 HO.out ((drewN_below w1 1).trans (hb.mono (drewN_below w1 1).size)))
             have HX2 := Lib.hid (HX.out.keep ((drewN_below w1 1).trans (hb.mono (drewN_below w1 1).size)))
             have y0 := HX2.out.cell 0
             have y1 := HX2.out.cell 1
             have y2 := HX2.out.cell 2
             clear hb))
        go_wp2
        refine ⟨⟨t + 1, G, gc, by omega, by go_num, by rw [HU.out], by rw [HU.out]; exact HO2.out, HB2.out⟩, by simp [intOf]; omega⟩
      · have HU := Lib.hid (ut_yes (show kd L t ≠ 0 by rw [HKD.out]; exact hk))
        generalize (cp : Int) - 1 = hd at *
        have hkb : ((ck : Int) == 0) = false := beq_eq_false_iff_ne.2 (by omega)
        have hk0 : ¬ (ck : Int) = 0 := by omega
        have hal := (Below.refl wr.heap.size wr).alloc (Nat.le_refl _) (.cells #[.int .i64 (ck : Int), .int .i64 hd, .int .i64 (cz : Int)] 58)
        have HX := Lib.hid (hb_new wr #[.int .i64 (ck : Int), .int .i64 hd, .int .i64 (cz : Int)] 58)
        have HB := Lib.hid (hb.trans (hal.mono hb.size))
        have HO := Lib.hid (own_keep3 hrow hal)
        clear hal hb hrow hh k0 k1 k2 hk
        go_wp2
        generalize wr.alloc (.cells #[.int .i64 (ck : Int), .int .i64 hd, .int .i64 (cz : Int)] 58) = w1 at *
        generalize wr.heap.size = xb at *
        have x0 := HX.out.cell 0
        have x1 := HX.out.cell 1
        have x2 := HX.out.cell 2
        have xl := HX.out.lt
        go_region_held3 (fun W' => W'.cell? ⟨xb, 0, none⟩ = some (.int .i64 (ck : Int)) ∧ W'.cell? ⟨xb, 1, none⟩ = some (.int .i64 hd) ∧ W'.cell? ⟨xb, 2, none⟩ = some (.int .i64 (cz : Int))) (go_keep)
          (first
          | (go_at_call 18
             with_reducible refine (HNN.out _).mono ?_
             rintro r w2 ⟨rfl, hb⟩
             have HB2 := Lib.hid (HB.out.trans (((drewN_below w1 1).trans (hb.mono (drewN_below w1 1).size)).mono HB.out.size))
             have HO2 := Lib.hid (own_keep3 HO.out ((drewN_below w1 1).trans (hb.mono (drewN_below w1 1).size)))
             have HX2 := Lib.hid (HX.out.keep ((drewN_below w1 1).trans (hb.mono (drewN_below w1 1).size)))
             have y0 := HX2.out.cell 0
             have y1 := HX2.out.cell 1
             have y2 := HX2.out.cell 2
             clear hb))
        have HOA := Lib.hid (HO2.out.alloc (.cells #[.int .i64 (t : Int)] 3))
        have hul := HUL.out
        go_wp2_with (at_builtin
                     refine wpList_append_own_at _ rfl (.tmp 19) (.tmp 21) 50 rfl w.heap.size 3 i0 (.int .i64 0) 1 8 Tryz.underlying50 hi0 hz0 hz1 hz2 rfl (by decide) (.slice G (ut L t).length gc) (ut L t).length (i64s ((ut L t).map Int.ofNat)) rfl HOA.out ⟨w2.heap.size, 0, none⟩ 1 1 [.int .i64 (t : Int)] rfl rfl (cell_one_new _ _ _) (by simp [Value.oneCell']) (by unfold maxLen; omega) (by omega) (by simp; have := HB2.out.size; omega) ?_
                     intro v6 w6 hown6 hgr6 _ _
                     obtain ⟨G6, c6, rfl⟩ := Pack.row_slice hown6
                     have hal := (Below.refl w2.heap.size w2).alloc (Nat.le_refl _) (.cells #[.int .i64 (t : Int)] 3)
                     have HB6 := Lib.hid ((HB2.out.trans (hal.mono HB2.out.size)).grown hgr6 (by simp; have := HB2.out.size; omega) (fun k hk => row_base_lt3 HO2.out hk))
                     have HO6 := Lib.hid hown6
                     clear hown6 hgr6 hal)
        refine ⟨⟨t + 1, G6, c6, by omega, by go_num, by rw [HU.out]; simp, ?_, HB6.out⟩, by simp [intOf]; omega⟩
        have h6 := HO6.out
        rw [HU.out]
        unfold i64s at h6 ⊢
        simp only [List.map_append, List.length_append]
        exact h6
    · obtain rfl : t = m := by omega
      have hcap := row_cap3 hrow
      have hul := ut_len L t
      go_wp2
      go_ret
      exact ⟨G, gc, rfl, Pack.own_nts hrow (fun x hx => by
        obtain ⟨y, hy, rfl⟩ := List.mem_map.1 hx
        have := ut_lt y hy
        simp only [Int.ofNat_eq_natCast]
        omega) (by omega), hb⟩
/-- the first free one -/
def nf (L : List Cl) (m : Nat) : Int := Bm.next (fun i => kd L i != 0) false m 0
set_option maxHeartbeats 4000000 in
set_option maxRecDepth 100000 in
theorem index_any (h : Cq w P n m L N C X) (hL : L.length = m) (hf : ∀ c ∈ L, c.k = 0 → c.p = 0 ∧ c.z = 0) : Calls Tryz.prog 73 #[.slice (some ⟨P.nb, 0, none⟩) m m, .agg #[.int .i64 0, .int .i64 (-1), .int .i64 0]] w fun r w' =>
    r = .returned (.int .i64 (nf L m)) ∧ Below w.heap.size w w' := by
  have H := Lib.hid h
  have HF := Lib.hid hf
  have hm := h.cr.max
  have HLM := Lib.hid hL
  clear h hf hL
  go_enter Tryz.func73, Tryz.ntmps73
  have HX0 := Lib.hid (hb_new w #[.int .i64 0, .int .i64 (-1), .int .i64 0] 58)
  have HB0 := Lib.hid ((Below.refl w.heap.size w).alloc (Nat.le_refl _) (.cells #[.int .i64 0, .int .i64 (-1), .int .i64 0] 58))
  go_wp2
  generalize w.alloc (.cells #[.int .i64 0, .int .i64 (-1), .int .i64 0] 58) = w0 at *
  go_loopw [8] (fun q wr => ∃ t : Nat, t ≤ m ∧ q = .int .i64 (t : Int) ∧ (∀ j, j < t → kd L j ≠ 0) ∧ Below w0.heap.size w0 wr) (fun q _ => m - (intOf q).toNat)
  case atStart => exact ⟨0, Nat.zero_le _, rfl, fun j hj => by omega, Below.refl _ _⟩
  case round =>
    obtain ⟨t, ht, rfl, hall, hb⟩ := hrel
    have HB := Lib.hid (HB0.out.trans (hb.mono HB0.out.size))
    have HX := Lib.hid (HX0.out.keep hb)
    by_cases hlt : t < m
    · have htL : t < L.length := by have := HLM.out; omega
      obtain ⟨k0, k1, k2⟩ := H.out.nod t htL
      have HFF := Lib.hid (HF.out _ (List.getElem_mem htL))
      have HKD := Lib.hid (kd_get htL)
      generalize L[t] = c at *
      obtain ⟨ck, cp, cz, cl⟩ := c
      simp only at k0 k1 k2 HFF HKD
      have hh := H.out.keep HB.out
      have n0 := (hh.cr.nodes.cell (t * 3)).trans k0
      have n1 := (hh.cr.nodes.cell (t * 3 + 1)).trans k1
      have n2 := (hh.cr.nodes.cell (t * 3 + 2)).trans k2
      have nl := hh.cr.nodes.lt
      have x0 := HX.out.cell 0
      have x1 := HX.out.cell 1
      have x2 := HX.out.cell 2
      have xl := HX.out.lt
      have HALL := Lib.hid hall
      have HBW := Lib.hid hb
      have hti : (t : Int) < (m : Int) := by omega
      clear hh k0 k1 k2 hall hb
      by_cases hk : ck = 0
      · subst hk
        obtain ⟨rfl, rfl⟩ := HFF.out rfl
        have n0 : wr.cell? ⟨P.nb, t * 3, none⟩ = some (.int .i64 0) := n0
        have n1 : wr.cell? ⟨P.nb, t * 3 + 1, none⟩ = some (.int .i64 (-1)) := n1
        have n2 : wr.cell? ⟨P.nb, t * 3 + 2, none⟩ = some (.int .i64 0) := n2
        have HNX := Lib.hid (Bm.Nx.next (.inr ⟨t, rfl, Nat.zero_le _, hlt, by simp [HKD.out], fun c _ hc => by have := HALL.out c hc; simp [this]⟩ : Bm.Nx (fun i => kd L i != 0) false m 0 (t : Int)))
        go_wp2_with fail
        go_region
        go_wp2
        go_ret
        refine ⟨?_, HB.out.trans ((drewN_below wr 1).mono HB.out.size)⟩
        unfold nf
        rw [← HNX.out]
        rfl
      · generalize (cp : Int) - 1 = hd at *
        have hkb : ((ck : Int) == 0) = false := beq_eq_false_iff_ne.2 (by omega)
        have hkb2 : ((0 : Int) == (ck : Int)) = false := beq_eq_false_iff_ne.2 (by omega)
        have hk0 : ¬ (ck : Int) = 0 := by omega
        have hk1 : ¬ (0 : Int) = (ck : Int) := by omega
        have HKN := Lib.hid hk
        clear hk
        go_wp2_with fail
        go_region
        go_wp2
        refine ⟨⟨t + 1, by omega, by go_num, fun j hj => ?_, HBW.out.trans ((drewN_below wr 1).mono HBW.out.size)⟩, by simp [intOf]; omega⟩
        by_cases e : j = t
        · subst e
          rw [HKD.out]
          exact HKN.out
        · exact HALL.out j (by omega)
    · obtain rfl : t = m := by omega
      have HNX := Lib.hid (Bm.Nx.next (.inl ⟨rfl, fun c _ hc => by have := hall c hc; simp [this]⟩ : Bm.Nx (fun i => kd L i != 0) false t 0 (-1)))
      go_wp2
      go_ret
      refine ⟨?_, HB.out⟩
      unfold nf
      rw [← HNX.out]
      rfl
set_option maxHeartbeats 4000000 in
set_option maxRecDepth 100000 in
theorem nextInode_any (h : Cq w P n m L N C X) (hL : L.length = m) (hf : ∀ c ∈ L, c.k = 0 → c.p = 0 ∧ c.z = 0) : Calls Tryz.prog 33 #[.pointer (some ⟨P.c, 0, none⟩)] w fun r w' =>
    r = .returned (.int .i64 (nf L m)) ∧ Below w.heap.size w w' := by
  have H := Lib.hid h
  have HF := Lib.hid hf
  have hm := h.cr.max
  have c0 := h.cr.claim.cell 0
  have cl := h.cr.lt
  have HNN := Lib.hid (fun w => Ino.none_any w)
  have HLM := Lib.hid hL
  clear h hf hL
  go_enter Tryz.func33, Tryz.ntmps33
  go_wp2_with fail
  go_region_held3 (fun W' => W'.cell? ⟨P.c, 0, none⟩ = some (.slice (some ⟨P.nb, 0, none⟩) m m)) (go_keep)
    (first
    | (go_at_call 18
       with_reducible refine (HNN.out _).mono ?_
       rintro r w2 ⟨rfl, hb⟩
       have HB2 := Lib.hid ((drewN_below w 1).trans (hb.mono (drewN_below w 1).size))
       have d0 := (H.out.keep HB2.out).cr.claim.cell 0
       have HIX := Lib.hid (index_any (H.out.keep HB2.out) HLM.out HF.out)
       clear hb)
    | (go_at_call 73
       with_reducible refine HIX.out.mono ?_
       rintro r w3 ⟨rfl, hb⟩
       have HB3 := Lib.hid (HB2.out.trans (hb.mono HB2.out.size))
       have e0 := (H.out.keep HB3.out).cr.claim.cell 0
       clear hb))
  go_wp2
  go_ret
  exact ⟨rfl, HB3.out⟩
end
end Clm
end Go.Proofs.YtilolepbfmcbgaaGreatDoor
/- What claims tell: NextSlots, Free. -/
namespace Go.Proofs.YtilolepbfmcbgaaGreatDoor
open Go.RowKit Go.MapKept
namespace Clm
open Chn (Pt New Prt slots Mays tot blk blk_len row_cap3 own_new own_keep3 row_base_lt3)
open Vol (Vo Hb hb_new hb_grown hb_apart)
open Pack (Nts int_info i64s)

/-- those of the first t that aren't in it -/
def fre (f : Nat → Bool) (t : Nat) : List Nat := (List.range t).filter fun b => !f b
theorem fre_no {f : Nat → Bool} {t : Nat} (h : f t = true) : fre f (t + 1) = fre f t := by simp [fre, List.range_succ, List.filter_append, h]
theorem fre_yes {f : Nat → Bool} {t : Nat} (h : f t = false) : fre f (t + 1) = fre f t ++ [t] := by simp [fre, List.range_succ, List.filter_append, h]
theorem fre_len (f : Nat → Bool) : ∀ t, (fre f t).length = t - Bm.cnt f t
  | 0 => rfl
  | t + 1 => by
    have h1 := fre_len f t
    have h2 := Bm.cnt_le f t
    cases h : f t with
    | true => rw [fre_no h, h1, Bm.cnt, h]; simp
    | false => rw [fre_yes h, List.length_append, h1, Bm.cnt, h]; simp; omega
theorem fre_lt {f : Nat → Bool} {t : Nat} : ∀ x ∈ fre f t, x < t := fun _ hx => List.mem_range.1 (List.mem_filter.1 hx).1
/-- none between -/
theorem fre_gap {f : Nat → Bool} {s : Nat} : ∀ t, s ≤ t → (∀ b, s ≤ b → b < t → f b = true) → fre f t = fre f s
  | 0, h, _ => by
    obtain rfl : s = 0 := by omega
    rfl
  | t + 1, h, hb => by
    by_cases e : s = t + 1
    · rw [e]
    · rw [fre_no (hb t (by omega) (by omega)), fre_gap t (by omega) (fun b h1 h2 => hb b h1 (by omega))]
theorem fre_pre (f : Nat → Bool) {s : Nat} : ∀ t, s ≤ t → ∃ r, fre f t = fre f s ++ r
  | 0, h => by
    obtain rfl : s = 0 := by omega
    exact ⟨[], by simp⟩
  | t + 1, h => by
    by_cases e : s = t + 1
    · subst e; exact ⟨[], by simp⟩
    · obtain ⟨r, hr⟩ := fre_pre f (s := s) t (by omega)
      cases hf : f t with
      | true => exact ⟨r, by rw [fre_no hf, hr]⟩
      | false => exact ⟨r ++ [t], by rw [fre_yes hf, hr, List.append_assoc]⟩
theorem fre_take {f : Nat → Bool} {s n k : Nat} (h : s ≤ n) (hk : k = (fre f s).length) : fre f s = (fre f n).take k := by
  obtain ⟨r, hr⟩ := fre_pre f n h
  rw [hr, hk]
  simp
/-- so many slots -/
def SlTo (w : World) (R : List Nat) (r : Ending) (w' : World) : Prop := ∃ (G : Option Addr) (gc : Nat), r = .returned (.slice G R.length gc) ∧ Nts w' G (R.map Int.ofNat) ∧ Below w.heap.size w w'
section
variable {w : World} {P : Pc} {n m : Nat} {L : List Cl} {N C X : Array Value}
set_option maxHeartbeats 4000000 in
set_option maxRecDepth 100000 in
theorem free_any (h : Cq w P n m L N C X) (hL : L.length = m) (hf : ∀ c ∈ L, c.k = 0 → c.p = 0 ∧ c.z = 0) : Calls Tryz.prog 20 #[.pointer (some ⟨P.c, 0, none⟩)] w fun r w' =>
    r = .returned (.tuple #[.int .i64 ((n - Bm.cnt (ins (bl L)) n : Nat) : Int), .int .i64 ((n - Bm.cnt (ins (sl L)) n : Nat) : Int), .int .i64 ((m : Int) - ((ut L m).length : Nat))]) ∧ Below w.heap.size w w' := by
  have H := Lib.hid h
  have HU := Lib.hid (fun w' (hb : Below w.heap.size w w') => used_any (h.keep hb) hL hf)
  have HFB := Lib.hid (fun w' (hb : Below w.heap.size w w') => Bm.free_any (h.keep hb).cr.bm)
  have HFS := Lib.hid (fun w' (hb : Below w.heap.size w w') => Bm.free_any (h.keep hb).cr.sm)
  have hm := h.cr.max
  have hul := ut_len L m
  have c0 := h.cr.claim.cell 0
  have c2 := h.cr.claim.cell 2
  have c3 := h.cr.claim.cell 3
  have cl := h.cr.lt
  clear h hf hL
  generalize n - Bm.cnt (ins (bl L)) n = fb at *
  generalize n - Bm.cnt (ins (sl L)) n = fs at *
  go_enter Tryz.func20, Tryz.ntmps20
  have HFB1 := Lib.hid (HFB.out w.drew (drewN_below w 1))
  go_wp2_with fail
  go_region_held3 (fun W' => W'.cell? ⟨P.c, 0, none⟩ = some (.slice (some ⟨P.nb, 0, none⟩) m m) ∧ W'.cell? ⟨P.c, 2, none⟩ = some (.pointer (some ⟨P.bp, 0, none⟩)) ∧ W'.cell? ⟨P.c, 3, none⟩ = some (.pointer (some ⟨P.sp, 0, none⟩))) (go_keep)
    (first
    | (go_at_call 34
       with_reducible refine HFB1.out.mono ?_
       rintro r w2 ⟨rfl, k2, hk2⟩
       have HB2 := Lib.hid (show Below w.heap.size w w2 by rw [hk2]; exact ⟨rfl, rfl, rfl, Nat.le_refl _, fun _ _ => rfl⟩)
       have d0 := (H.out.keep HB2.out).cr.claim.cell 0
       have d2 := (H.out.keep HB2.out).cr.claim.cell 2
       have d3 := (H.out.keep HB2.out).cr.claim.cell 3
       have HFS2 := Lib.hid (HFS.out w2 HB2.out)
       clear hk2)
    | (go_at_call 34
       with_reducible refine HFS2.out.mono ?_
       rintro r w3 ⟨rfl, k3, hk3⟩
       have HB3 := Lib.hid (show Below w.heap.size w w3 by rw [hk3]; exact HB2.out.trans ((drewN_below w2 k3).mono HB2.out.size))
       have e0 := (H.out.keep HB3.out).cr.claim.cell 0
       have e2 := (H.out.keep HB3.out).cr.claim.cell 2
       have e3 := (H.out.keep HB3.out).cr.claim.cell 3
       have HU3 := Lib.hid (HU.out w3 HB3.out)
       clear hk3)
    | (go_at_call 21
       with_reducible refine HU3.out.mono ?_
       rintro r w4 ⟨G, gc, rfl, _, hb⟩
       have HB4 := Lib.hid (HB3.out.trans (hb.mono HB3.out.size))
       have f0 := (H.out.keep HB4.out).cr.claim.cell 0
       have f2 := (H.out.keep HB4.out).cr.claim.cell 2
       have f3 := (H.out.keep HB4.out).cr.claim.cell 3
       clear hb))
  go_wp2
  refine bodyPost_ret (v := .tuple #[.int .i64 (fb : Int), .int .i64 (fs : Int), .int .i64 ((m : Int) - ((ut L m).length : Nat))]) ?_ rfl ⟨rfl, HB4.out⟩
  have hw : IntKind.i64.wrap ((m : Int) - ((ut L m).length : Nat)) = (m : Int) - ((ut L m).length : Nat) := IntWalk.i64_in _ (by omega)
  simp [results, Tryz.results20, go_sem, hw]
set_option maxHeartbeats 4000000 in
set_option maxRecDepth 100000 in
theorem nextSlots_any (h : Cq w P n m L N C X) (hT : Bm.Tab w) (x : Int) (hx : -9223372036854775808 ≤ x ∧ x ≤ 9223372036854775807) : Calls Tryz.prog 16 #[.pointer (some ⟨P.c, 0, none⟩), .int .i64 x] w (SlTo w ((fre (ins (sl L)) n).take x.toNat)) := by
  obtain ⟨i0, hi0, hz0, hz1, hz2⟩ := info_parts int_info
  have H := Lib.hid h
  have HNX := Lib.hid (fun w' (hb : Below w.heap.size w w') (s : Nat) (y : Int) (hy : y = (s : Int)) (hs : s ≤ 9223372036854775807) => show Calls Tryz.prog 51 #[.pointer (some ⟨P.sp, 0, none⟩), .int .i64 y, .bool false] w' fun e w'' => e = .returned (.int .i64 (Bm.next (ins (sl L)) false n s)) ∧ w' = w'' from by
    subst hy
    exact Bm.next_any (h.keep hb).cr.sm (hT.below hb hT.lt) (s : Int) false (by omega))
  have hmx := h.cr.sm.max
  have c3 := h.cr.claim.cell 3
  have cl := h.cr.lt
  clear h hT
  generalize ins (sl L) = f at *
  obtain ⟨R, hR⟩ : ∃ R, R = (fre f n).take x.toNat := ⟨_, rfl⟩
  rw [← hR]
  have HRR := Lib.hid hR
  clear hR
  go_enter Tryz.func16, Tryz.ntmps16
  go_wp2_with fail
  refine (HNX.out _ (Below.refl _ _) 0 0 rfl (by omega)).mono ?_
  rintro r w1 ⟨rfl, rfl⟩
  go_wp2
  clear c3 cl
  go_loopw [5, 6] (fun v q wr => ∃ (t : Nat) (G : Option Addr) (gc : Nat), t ≤ n ∧ q = .int .i64 (Bm.next f false n t) ∧ v = .slice G (fre f t).length gc ∧ (fre f t).length ≤ x.toNat ∧ wr.ownsRow w.heap.size 3 1 (.slice G (fre f t).length gc) (fre f t).length (i64s ((fre f t).map Int.ofNat)) ∧ Below w.heap.size w wr) (fun _ q _ => if intOf q < 0 then 0 else n - (intOf q).toNat)
  case atStart => exact ⟨0, none, 0, Nat.zero_le _, rfl, rfl, Nat.zero_le _, World.ownsRow_nil .., Below.refl _ _⟩
  case round =>
    obtain ⟨t, G, gc, ht, rfl, rfl, hle, hrow, hb⟩ := hrel
    have hfl : (fre f t).length ≤ t := by rw [fre_len]; omega
    have HOWN := Lib.hid (fun (l : List Nat) (e : l = fre f t) (hh : ∀ y ∈ l, y < n) => show Nts wr G (l.map Int.ofNat) from by
      subst e
      exact Pack.own_nts hrow (fun x hx => by
        obtain ⟨y, hy, rfl⟩ := List.mem_map.1 hx
        have := hh y hy
        simp only [Int.ofNat_eq_natCast]
        omega) (by omega))
    have HFT := Lib.hid (show ∀ y ∈ fre f t, y < n from fun y hy => by have := fre_lt y hy; omega)
    rcases Bm.next_is f false n t with ⟨e, hno⟩ | ⟨b, e, htb, hbn, hfb, hno⟩
    · have hgap := fre_gap (f := f) (s := t) n ht (fun b h1 h2 => by simpa using hno b h1 h2)
      have htk : (fre f n).take x.toNat = fre f t := by rw [hgap]; exact List.take_of_length_le hle
      rw [e]
      have HTK := Lib.hid (show R = fre f t by rw [HRR.out, htk])
      clear htk hgap hno e
      go_wp2
      go_ret
      exact ⟨G, gc, by rw [HTK.out]; rfl, by rw [HTK.out]; exact HOWN.out _ rfl HFT.out, hb⟩
    · have hgap := fre_gap (f := f) (s := t) b htb (fun c h1 h2 => by simpa using hno c h1 h2)
      have hy := fre_yes hfb
      rw [hgap] at hy
      rw [e]
      by_cases hlx : ((fre f t).length : Int) < x
      · have HY := Lib.hid hy
        have HB := Lib.hid hb
        have HO := Lib.hid (hrow.alloc (.cells #[.int .i64 (b : Int)] 3))
        have HOR := Lib.hid hrow
        have HLE := Lib.hid hle
        have hbm : ((b : Int) == -1) = false := beq_eq_false_iff_ne.2 (by omega)
        have hbm2 : ((b : Int) != -1) = true := by simp only [bne, hbm]; rfl
        have HNO := Lib.hid hno
        have HNB := Lib.hid (Bm.next_is f false n (b + 1))
        clear hy hb hrow hgap hno e hle
        go_wp2_with (first
          | (at_builtin
             refine wpList_append_own_at _ rfl (.tmp 27) (.tmp 29) 50 rfl w.heap.size 3 i0 (.int .i64 0) 1 8 Tryz.underlying50 hi0 hz0 hz1 hz2 rfl (by decide) (.slice G (fre f t).length gc) (fre f t).length (i64s ((fre f t).map Int.ofNat)) rfl HO.out ⟨wr.heap.size, 0, none⟩ 1 1 [.int .i64 (b : Int)] rfl rfl (cell_one_new _ _ _) (by simp [Value.oneCell']) (by unfold maxLen; omega) (by omega) (by simp; have := HB.out.size; omega) ?_
             intro v6 w6 hown6 hgr6 _ _
             obtain ⟨G6, c6, rfl⟩ := Pack.row_slice hown6
             have hal := (Below.refl wr.heap.size wr).alloc (Nat.le_refl _) (.cells #[.int .i64 (b : Int)] 3)
             have HB6 := Lib.hid ((HB.out.trans (hal.mono HB.out.size)).grown hgr6 (by simp; have := HB.out.size; omega) (fun k hk => row_base_lt3 HOR.out hk))
             have HO6 := Lib.hid hown6
             have c3 := (H.out.keep HB6.out).cr.claim.cell 3
             have cl := (H.out.keep HB6.out).cr.lt
             clear hown6 hgr6 hal)
          | fail)
        refine (HNX.out w6 HB6.out (b + 1) _ (by omega) (by omega)).mono ?_
        rintro r w7 ⟨rfl, rfl⟩
        go_wp2
        have hyl : (fre f (b + 1)).length = (fre f t).length + 1 := by rw [HY.out]; simp
        refine ⟨⟨b + 1, G6, c6, by omega, rfl, by rw [hyl], by rw [hyl]; omega, ?_, HB6.out⟩, ?_⟩
        · have h6 := HO6.out
          rw [HY.out]
          unfold i64s at h6 ⊢
          simp only [List.map_append, List.length_append]
          exact h6
        · have h8 : ¬ intOf (.int .i64 (b : Int)) < 0 := by simp [intOf]
          rw [if_neg h8]
          rcases HNB.out with ⟨e2, _⟩ | ⟨b2, e2, h9, h10, _⟩
          · rw [e2]
            simp [intOf]
            omega
          · rw [e2, if_neg (by simp [intOf])]
            simp [intOf]
            omega
      · have htk : fre f t = (fre f n).take x.toNat := fre_take ht (by omega)
        have HTK := Lib.hid (show R = fre f t by rw [HRR.out, htk])
        clear htk hgap hno e hy
        go_wp2
        go_ret
        exact ⟨G, gc, by rw [HTK.out]; rfl, by rw [HTK.out]; exact HOWN.out _ rfl HFT.out, hb⟩
end
end Clm
end Go.Proofs.YtilolepbfmcbgaaGreatDoor
/- A range over a function whose rounds call what writes elsewhere (a device): what holds between two rounds need only outlast a change of the loop's own record. And the library's slices.Backward of ints. -/
namespace Go.Proofs.YtilolepbfmcbgaaGreatDoor
open Go.RowKit Go.Shelf Go.MapKept
attribute [local go_sem] Oper.semAt_some
namespace Chn

section
variable {F : Fence} {n : Nat} {P : Program}
/-- how a round is left: the loop's own two blocks are as they were; it goes on, or it returns -/
def Left (B : Nat) (I : Nat → World → Prop) (Ix : World → Prop) (k : Nat) (W : World) : Exit → Act → World → Prop
  | .normal, _, W' => (W'.heap[B]? = W.heap[B]? ∧ W'.heap[B + 1]? = W.heap[B + 1]?) ∧ I (k + 1) W'
  | .ret, _, W' => (W'.heap[B]? = W.heap[B]? ∧ W'.heap[B + 1]? = W.heap[B + 1]?) ∧ Ix W'
  | .exit _, _, _ => False
  | .goto _, _, _ => False
  | .panic _, _, _ => False
  | .outgrown, _, _ => False

theorem off_put (W : World) (l : Nat) (o : Obj) : Pm.Off (fun k => k = l) W (W.putObj l o) :=
  (Pm.Off.refl _ W).grown (grownBy_putObj' W l o) (fun k e _ => by cases e; rfl)

theorem range_back {g : Operand} {ps : Array Tmp} {assign body : Code} {Q : Exit → Act → World → Prop} {a : Act} {w : World}
    (hro : F.round = none) (h1 : 1 ≤ n) {gf : Nat} {lb : Array Value} (hg : a.eval g = .func (.func gf) #[] lb) (hFg : F.fn gf) (eg : ∀ args w, (callFunc gf args).run P w = .ok (.enter gf args) w)
    {encs : Nat → Array Value} {N : Nat} (hps : ∀ k, (encs k).size = ps.size)
    (I : Nat → World → Prop) (Ix : World → Prop)
    (hI : ∀ k W W', I k W → Pm.Off (fun j => j = w.heap.size + 1) W W' → I k W') (hIx : ∀ W W', Ix W → Pm.Off (fun j => j = w.heap.size + 1) W W' → Ix W')
    (h0 : ∀ r, I 0 ((w.alloc (.deferred (some []))).alloc (.loop r)))
    (hseq : ∀ (l : Nat) (J : Nat → World → Prop) (Jx : World → Prop) (W : World), (∀ k W, J k W → I k W) →
      (∀ k W1, J k W1 → k < N → YieldAt F (n - 1 - 1) P l (encs k) W1 fun e W' => (e = .returned (.bool true) ∧ J (k + 1) W') ∨ (e = .returned (.bool false) ∧ Jx W')) → J 0 W →
      CallsIn F (n - 1) P gf (#[.func (.yield l) #[] #[]] ++ lb) W fun e W' => (∃ v, e = .returned v) ∧ (J N W' ∨ Jx W'))
    (a₁ : Nat → Act)
    (hassign : ∀ (l k : Nat) (W : World) (K : Act → World → Prop), K (a₁ k) W →
      assign.wpIn (F.inRound l) (n - 1 - 1) P (Exit.then K (fun _ _ _ => False)) { tmps := (ps.zip (encs k)).foldl (fun t (p, v) => t.setIfInBounds p v) a.tmps, defers := [] } W)
    (hbody : ∀ (l k : Nat) (W : World), I k W → k < N → body.wpIn (F.inRound l) (n - 1 - 1) P (Left w.heap.size I Ix k W) (a₁ k) W)
    (hdone : ∀ W, I N W → W.heap[w.heap.size]? = some (.deferred (some [])) → Q .normal { a with defers := { target := .collected w.heap.size, args := #[] } :: a.defers } W)
    (hstop : ∀ W, Ix W → W.heap[w.heap.size]? = some (.deferred (some [])) → (Code.ret).wpIn F n P Q { a with defers := { target := .collected w.heap.size, args := #[] } :: a.defers } W) :
    (Code.rangeFunc g ps assign body).wpIn F n P Q a w := by
  refine wpIn_rangeFunc ?_
  intro fn hfn
  rw [hro]
  obtain ⟨rec, hrec⟩ : ∃ rec : LoopState → Option Code → Loop, rec = fun st pe => { state := st, pending := pe, fn, tmps := a.tmps, params := ps, assign, body, defers := w.heap.size } := ⟨_, rfl⟩
  have hrun := run_enterLoop_outer (P := P) (w := w) fn a.tmps ps assign body
  have hI1 := h0 (rec .ready none)
  have hL := World.alloc_heap_new (w.alloc (.deferred (some []))) (.loop (rec .ready none))
  rw [World.size_alloc] at hL
  have hD : ((w.alloc (.deferred (some []))).alloc (.loop (rec .ready none))).heap[w.heap.size]? = some (.deferred (some [])) := (Below.heap_alloc _ _ _ (by simp)).trans (World.alloc_heap_new w _)
  have hrr : (Instr.enterLoop fn a.tmps ps assign body none).run P w = .ok (w.heap.size + 1, [{ target := .collected w.heap.size, args := #[] }]) ((w.alloc (.deferred (some []))).alloc (.loop (rec .ready none))) := by rw [hrec]; exact hrun
  clear hrun h0
  generalize (w.alloc (.deferred (some []))).alloc (.loop (rec .ready none)) = W1 at *
  refine ⟨w.heap.size + 1, _, W1, { target := .fn (.func gf) lb, args := #[.func (.yield (w.heap.size + 1)) #[] #[]] }, W1, gf, #[.func (.yield (w.heap.size + 1)) #[] #[]] ++ lb, W1, hrr, ?_, ?_, ?_, fun _ => h1, ?_⟩
  · simp only [resolve, hg]
    simp [go_sem]
  · intro f' hf'
    simp [Target.leads] at hf'
    subst hf'
    exact hFg
  · simp [invoke, go_sem, eg]
  · refine (hseq (w.heap.size + 1)
      (fun k W => I k W ∧ W.heap[w.heap.size + 1]? = some (.loop (rec .ready none)) ∧ W.heap[w.heap.size]? = some (.deferred (some [])))
      (fun W => Ix W ∧ W.heap[w.heap.size + 1]? = some (.loop (rec .done (some .ret))) ∧ W.heap[w.heap.size]? = some (.deferred (some [])))
      W1 (fun _ _ h => h.1) ?_ ⟨hI1, hL, hD⟩).mono ?_
    · rintro k W ⟨hi, hl, hk⟩ hN
      have hlt : w.heap.size + 1 < W.heap.size := (Array.getElem?_eq_some_iff.1 hl).1
      have hy := run_yield (P := P) (args := encs k) hl (by rw [hrec]; exact hps k)
      rw [hrec] at hy
      refine ⟨fn, _, assign, body, hy, roundIn_of_wpIn hfn (hassign _ k W _ ⟨_, run_beginRound hl (by rw [hrec]), ?_⟩)⟩
      have hl2 : (W.putObj (w.heap.size + 1) (.loop { rec .ready none with state := .busy })).heap[w.heap.size + 1]? = some (.loop { rec .ready none with state := .busy }) := World.putObj_heap_same hlt
      have hk2 : (W.putObj (w.heap.size + 1) (.loop { rec .ready none with state := .busy })).heap[w.heap.size]? = some (.deferred (some [])) := (World.putObj_heap_other (by omega)).trans hk
      have hi2 := hI k _ _ hi (off_put W (w.heap.size + 1) (.loop { rec .ready none with state := .busy }))
      generalize W.putObj (w.heap.size + 1) (.loop { rec .ready none with state := .busy }) = W2 at *
      refine wpIn_mono (hbody (w.heap.size + 1) k W2 hi2 hN) ?_
      rintro e a3 W3 hp
      cases e with
      | normal =>
        obtain ⟨⟨e1, e2⟩, hi3⟩ := hp
        have hl3 := e2.trans hl2
        have hr := run_endRound (P := P) none hl3
        rw [hrec] at hr
        refine ⟨_, _, hr, .inl ⟨rfl, hI _ _ _ hi3 (off_put _ _ _), ?_, (World.putObj_heap_other (by omega)).trans (e1.trans hk2)⟩⟩
        rw [World.putObj_heap_same (Array.getElem?_eq_some_iff.1 hl3).1, hrec]
        rfl
      | ret =>
        obtain ⟨⟨e1, e2⟩, hi3⟩ := hp
        have hl3 := e2.trans hl2
        have hr := run_endRound (P := P) (some .ret) hl3
        rw [hrec] at hr
        refine ⟨_, _, hr, .inr ⟨rfl, hIx _ _ hi3 (off_put _ _ _), ?_, (World.putObj_heap_other (by omega)).trans (e1.trans hk2)⟩⟩
        rw [World.putObj_heap_same (Array.getElem?_eq_some_iff.1 hl3).1, hrec]
        rfl
      | exit id => exact hp.elim
      | goto t => exact hp.elim
      | panic ch => exact hp.elim
      | outgrown => exact hp.elim
    · rintro e W2 ⟨⟨v, rfl⟩, (⟨hi, hl, hk⟩ | ⟨hi, hl, hk⟩)⟩
      · have hr := run_endLoop (P := P) hl (by rw [hrec]; simp)
        rw [hrec] at hr
        exact ⟨none, _, hr, hdone _ (hI _ _ _ hi (off_put _ _ _)) ((World.putObj_heap_other (by omega)).trans hk)⟩
      · have hr := run_endLoop (P := P) hl (by rw [hrec]; simp)
        rw [hrec] at hr
        exact ⟨some .ret, _, hr, hstop _ (hIx _ _ hi (off_put _ _ _)) ((World.putObj_heap_other (by omega)).trans hk)⟩
end

section
variable {F : Fence} {n : Nat} {P : Program} {ops : Array Oper} {Q : Exit → Act → World → Prop}
theorem op_mono {i : Nat} {K K' : Act → World → Prop} (h : ∀ a w, K a w → K' a w) {a : Act} {w : World} (hh : wpOpIn F n P ops Q i K a w) : wpOpIn F n P ops Q i K' a w := by
  unfold wpOpIn at *
  split
  · rename_i e; rw [e] at hh; exact h _ _ hh
  · rename_i o e
    rw [e] at hh
    simp only at hh
    split
    · rename_i e2; rw [if_pos e2] at hh; exact Oper.wpIn_mono h hh
    · rename_i e2; rw [if_neg e2] at hh; exact ⟨hh.1, h _ _ hh.2⟩
/-- how many aren't listed yet -/
def rest (l : Array Bool) : Nat := l.toList.countP (fun b => !b)
theorem count_set : ∀ (l : List Bool) (i : Nat), l[i]? = some false → (l.set i true).countP (fun b => !b) + 1 = l.countP (fun b => !b)
  | [], i, h => by simp at h
  | b :: l, 0, h => by
    obtain rfl : b = false := by simpa using h
    simp
  | b :: l, i + 1, h => by
    have := count_set l i (by simpa using h)
    rw [List.set_cons_succ, List.countP_cons, List.countP_cons]
    omega
/-- a region that draws its order, by what holds at whatever has been carried out -/
theorem any_inv (St : Array Bool → Act → World → Prop)
    (hstep : ∀ l a w i, l.size = ops.size → St l a w → i ∈ Region.ready .any ops l → wpOpIn F n P ops Q i (St (l.setIfInBounds i true)) a w)
    (hend : ∀ l a w, l.size = ops.size → St l a w → Region.ready .any ops l = [] → Q .normal a w) :
    ∀ (fuel : Nat) (l : Array Bool) (a : Act) (w : World), l.size = ops.size → rest l ≤ fuel → St l a w → wpAnyIn F n P .any ops Q fuel l a w
  | 0, l, a, w, hs, hr, h => by
    have h0 : Region.ready .any ops l = [] := by
      unfold Region.ready
      rw [List.filter_eq_nil_iff]
      intro i hi
      have hi : i < l.size := by rw [hs]; simpa using hi
      have hm : l[i] = true := by
        cases e : l[i] with
        | true => rfl
        | false =>
          have : 0 < l.toList.countP (fun b => !b) := List.countP_pos_iff.2 ⟨false, by rw [← e]; simp, rfl⟩
          unfold rest at hr
          omega
      simp [Array.getD, hi, hm]
    exact ⟨h0, hend l a w hs h h0⟩
  | fuel + 1, l, a, w, hs, hr, h => by
    refine ⟨hend l a w hs h, fun i hi => op_mono (fun a' w' h' => any_inv St hstep hend fuel _ a' w' (by simpa using hs) ?_ h') (hstep l a w i hs h hi)⟩
    have hi2 := (List.mem_filter.1 hi)
    have hlt : i < l.size := by rw [hs]; simpa using hi2.1
    have hf : l[i] = false := by
      have := hi2.2
      simp only [Bool.and_eq_true, Bool.not_eq_true', Array.getD, hlt, dite_true] at this
      exact this.1
    have := count_set l.toList i (by rw [List.getElem?_eq_getElem (by simpa using hlt)]; simpa using hf)
    unfold rest at hr ⊢
    rw [Array.toList_setIfInBounds]
    omega
end

/-! slices.Backward -/
/-- what a round is handed: the index, the element -/
def bw (l : List Int) (k : Nat) : Array Value := #[.int .i64 ((l.length : Int) - 1 - (k : Int)), .int .i64 (l[l.length - 1 - k]?.getD 0)]

theorem back1_in (F : Fence) (f : Nat) (hf : F.fn 150) (hro : F.round = none) (h1 : 1 ≤ f) (lp Bn : Nat) (A : Option Addr) (c : Nat) (l : List Int) (hl : l.length ≤ 1000000) (J : Nat → World → Prop) (Jx : World → Prop)
    (hm : ∀ k W, J k W → W.cell? ⟨Bn, 0, none⟩ = some (.slice A l.length c) ∧ Pack.Nts W A l)
    (hY : ∀ k W, J k W → k < l.length → YieldAt F (f - 1) Tryz.prog lp (bw l k) W fun e W' => (e = .returned (.bool true) ∧ J (k + 1) W') ∨ (e = .returned (.bool false) ∧ Jx W'))
    (W : World) (h0 : J 0 W) :
    CallsIn F f Tryz.prog 150 #[.func (.yield lp) #[] #[], .pointer (some ⟨Bn, 0, none⟩)] W fun e W' => (∃ v, e = .returned v) ∧ (J l.length W' ∨ Jx W') := by
  refine callsIn_of_wp Tryz.func150 rfl hf ?_ hro
  simp only [Tryz.ntmps150, List.size_toArray, List.length_cons, List.length_nil, Nat.reduceAdd, Nat.reduceSub, Array.replicate_succ, Array.replicate_zero, List.push_toArray, List.append_toArray, List.nil_append, List.cons_append]
  obtain ⟨hc0, hn0⟩ := hm 0 W h0
  have H0 := Lib.hid h0
  clear h0 hn0
  gi_wp2_with fail
  gi_loopw [3] (fun i wr => ∃ k : Nat, k ≤ l.length ∧ i = .int .i64 ((l.length : Int) - 1 - (k : Int)) ∧ J k wr) (fun i _ => ((intOf i) + 1).toNat)
  case atStart => exact ⟨0, Nat.zero_le _, by simp, H0.out⟩
  case round =>
    obtain ⟨k, hk, rfl, hJ⟩ := hrel
    obtain ⟨hc, hN⟩ := hm k wr hJ
    by_cases hlt : k < l.length
    · obtain ⟨j, hj⟩ : ∃ j, l.length = k + 1 + j := ⟨l.length - k - 1, by omega⟩
      have hjl : j < l.length := by omega
      obtain ⟨b, o, hA, hb, hcj⟩ := hN.at' j hjl
      subst hA
      have hRR := hY k wr hJ hlt
      unfold bw at hRR
      rw [show l.length - 1 - k = j by omega, List.getElem?_eq_getElem hjl, Option.getD_some, show (l.length : Int) - 1 - (k : Int) = (j : Int) by omega] at hRR
      obtain ⟨fn, tmps, assign, body, hy, hR⟩ := hRR
      have HR := Lib.hid hR
      rw [show (l.length : Int) - 1 - (k : Int) = (j : Int) by omega]
      have HJL := Lib.hid hj
      clear hR hJ hN H0 hj
      gi_wp2_with fail
      refine HR.out.mono ?_
      rintro e W3 (⟨rfl, hJ3⟩ | ⟨rfl, hJx⟩)
      · have HJ3 := Lib.hid hJ3
        clear hJ3
        gi_wp2
        go_roundw
        case rel => exact ⟨k + 1, by omega, by have := HJL.out; congr 1; omega, HJ3.out⟩
        case measure => simp [intOf]
      · have HJX := Lib.hid hJx
        clear hJx
        gi_wp2
        refine bodyPost_ret (results_none rfl _ _ _) rfl ?_
        exact ⟨⟨_, rfl⟩, .inr HJX.out⟩
    · obtain rfl : k = l.length := by omega
      have HJ := Lib.hid hJ
      rw [show (l.length : Int) - 1 - (l.length : Int) = -1 by omega]
      clear hJ hN H0
      gi_wp2
      go_end0
      exact ⟨⟨_, rfl⟩, .inl HJ.out⟩
end Chn
end Go.Proofs.YtilolepbfmcbgaaGreatDoor
