/- Texts laid together: LinOrd, SloEncode, SloDecode, SloRef, SloRefDec, SloLives, LinFour, RecMath, RecMay, RecEncode, RecDecode, RecRef. -/
import Derived.Test.YtcojgpjappjobaaGreatDoorVs6
import Derived.Test.YtcojgpjappjobaaGreatDoorVs3
import Derived.Test.YtcojgpjappjobaaGreatDoorVs1
import Derived.Test.YtcojgpjappjobaaGreatDoorVs2
import Derived.Test.YtcojgpjappjobaaGreatDoorVs4
import Derived.Test.YtcojgpjappjobaaGreatDoorVs5
/- A region that draws, walked by its states: which operations have come up, and what holds then. A struct of two cells of the call's own. -/
namespace Go.Proofs.YtcojgpjappjobaaGreatDoor
open Go.RowKit Go.MapKept
namespace Lin

section
variable {P : Program} {ops : Array Oper} {Q : Exit → Act → World → Prop} {md : Region.Mode} {S : World → Prop}

/-- a region by states: in state s the operations L s have come up, n s are left ahead of the last m, rdy s may come up, and I holds -/
theorem any_states {σ : Type} (L : σ → Array Bool) (n : σ → Nat) (rdy : σ → List Nat) (I : σ → Act → World → Prop) (m : Nat)
    (ready : ∀ s a w, I s a w → n s ≠ 0 → Region.ready md ops (L s) = rdy s ∧ rdy s ≠ [])
    (step : ∀ s a w, I s a w → n s ≠ 0 → ∀ i ∈ rdy s, wpOp P ops Q i (fun a' w' => ∃ s', L s' = (L s).setIfInBounds i true ∧ n s = n s' + 1 ∧ S w' ∧ I s' a' w') a w)
    (last : ∀ s a w, I s a w → n s = 0 → wpAnyH P md ops Q S m (L s) a w) :
    ∀ k s a w, n s = k → I s a w → wpAnyH P md ops Q S (k + m) (L s) a w := by
  intro k
  induction k with
  | zero =>
    intro s a w hn hI
    rw [Nat.zero_add]
    exact last s a w hI hn
  | succ k ih =>
    intro s a w hn hI
    have h0 : n s ≠ 0 := by omega
    obtain ⟨hr, hne⟩ := ready s a w hI h0
    rw [show k + 1 + m = (k + m) + 1 by omega]
    refine wpAnyH_all hr hne (fun i hi => wpOp_mono (fun a' w' h => ?_) (step s a w hI h0 i hi))
    obtain ⟨s', hL, hn', hS, hI'⟩ := h
    exact ⟨hS, hL ▸ ih s' a' w' (by omega) hI'⟩

/-- one operation that comes up; the way back is hidden -/
theorem op_step {i : Nat} {o : Oper} {K : Act → World → Prop} {a : Act} {w : World} (ho : ops[i]? = some o)
    (h : ∀ K' : Act → World → Prop, Hid (∀ a w, K a w → K' a w) → if Region.wanted o (yielded ops a.tmps) = true then Oper.wp P o a w K' Q else K' (a.put o.dst undef) w) : wpOp P ops Q i K a w :=
  wpOp_step ho (fun K' hK => h K' (Lib.hid hK))
end

/-- two cells of the call's own in block b: an int, a word -/
structure Fw (w : World) (b : Nat) (n : Int) (v : Nat) : Prop where
  lt : b < w.heap.size
  c0 : w.cell? ⟨b, 0, none⟩ = some (.int .i64 n)
  c1 : w.cell? ⟨b, 1, none⟩ = some (.int .u64 (v : Int))
  f : ∀ o, w.frozen? ⟨b, o, none⟩ = false
theorem Fw.keep {w w' : World} {b v : Nat} {n : Int} (h : Fw w b n v) (hb : Below w.heap.size w w') : Fw w' b n v :=
  ⟨Nat.lt_of_lt_of_le h.lt hb.size, (hb.cell (p := ⟨b, 0, none⟩) h.lt).trans h.c0, (hb.cell (p := ⟨b, 1, none⟩) h.lt).trans h.c1, fun o => (hb.frozen (p := ⟨b, o, none⟩) h.lt).trans (h.f o)⟩
theorem Fw.drew {w : World} {b v : Nat} {n : Int} (h : Fw w b n v) : Fw w.drew b n v := ⟨h.lt, h.c0, h.c1, h.f⟩
theorem fw_new (w : World) (n : Int) (v : Nat) (t : TypeId) : Fw (w.alloc (.cells #[.int .i64 n, .int .u64 (v : Int)] t)) w.heap.size n v :=
  ⟨by simp, World.cell?_alloc_mark w _ t _ 0, World.cell?_alloc_mark w _ t _ 1, fun o => (World.rowIs_alloc w #[.int .i64 n, .int .u64 (v : Int)] t (fun i => if i = 0 then .int .i64 n else .int .u64 (v : Int)) (fun i hi => by
    have : i < 2 := hi
    match i, this with
    | 0, _ => rfl
    | 1, _ => rfl)).frozen o⟩
theorem Fw.set {w : World} {b v : Nat} {n : Int} (h : Fw w b n v) (m : Int) (u : Nat) : Fw ((w.setCell ⟨b, 0, none⟩ (.int .i64 m)).setCell ⟨b, 1, none⟩ (.int .u64 (u : Int))) b m u :=
  ⟨by simpa using h.lt, by rw [World.cell?_setCell_other _ _ _ _ (by simp)]; exact World.cell?_setCell_same _ _ _ h.c0, World.cell?_setCell_same _ _ _ ((World.cell?_setCell_other _ _ _ _ (by simp)).trans h.c1), fun o => by rw [World.frozen?_setCell, World.frozen?_setCell]; exact h.f o⟩
theorem Fw.other {w : World} {b v d : Nat} {n : Int} (h : Fw w b n v) (hd : b ≠ d) (x y : Value) : Fw ((w.setCell ⟨d, 0, none⟩ x).setCell ⟨d, 1, none⟩ y) b n v :=
  ⟨by simpa using h.lt, (cell_set_other hd _).trans ((cell_set_other hd _).trans h.c0), (cell_set_other hd _).trans ((cell_set_other hd _).trans h.c1), fun o => by rw [World.frozen?_setCell, World.frozen?_setCell]; exact h.f o⟩
theorem Box.other {w : World} {b d : Nat} {n m s : Int} (h : Box w b n m s) (hd : b ≠ d) (x y : Value) : Box ((w.setCell ⟨d, 0, none⟩ x).setCell ⟨d, 1, none⟩ y) b n m s :=
  ⟨by simpa using h.lt, (cell_set_other hd _).trans ((cell_set_other hd _).trans h.c0), (cell_set_other hd _).trans ((cell_set_other hd _).trans h.c1), (cell_set_other hd _).trans ((cell_set_other hd _).trans h.c2)⟩
end Lin
end Go.Proofs.YtcojgpjappjobaaGreatDoor
/- The program's word of a slot: Encode, walked. -/
namespace Go.Proofs.YtcojgpjappjobaaGreatDoor
open Go.RowKit Go.MapKept
namespace Slo
open Lin

theorem encode_no (w : World) (s c n : Int) (hm : may s c n = false) :
    Calls Tryz.prog 92 #[.agg #[.int .i64 s, .int .i64 c, .int .i64 n]] w fun r w' => r = .returned (.tuple #[.int .u64 0, .int .i64 1]) ∧ Below w.heap.size w w' := by
  have HM := Lib.hid (fun w => may_any w s c n)
  have HE := Lib.hid hm
  clear hm
  have HB := Lib.hid ((Below.refl w.heap.size w).alloc (Nat.le_refl _) (.cells #[.int .i64 s, .int .i64 c, .int .i64 n] 51))
  go_enter Tryz.func92, Tryz.ntmps92
  go_wp2_with fail
  refine (HM.out _).mono ?_
  rintro e w' ⟨rfl, hb⟩
  rw [HE.out]
  have HB1 := Lib.hid (HB.out.trans (hb.mono HB.out.size))
  clear hb
  go_wp2
  go_ret2
  exact ⟨rfl, HB1.out⟩

theorem fds_three (w : World) {n m q : Nat} (hn : n < 65536) (hm : m < 65536) (hq : q < 65536) : Pack.Fds (w.alloc (.cells #[.int .i64 16, .int .u64 (n : Int), .int .i64 16, .int .u64 (m : Int), .int .i64 16, .int .u64 (q : Int)] 178)) (some ⟨w.heap.size, 0, none⟩) [⟨16, n⟩, ⟨16, m⟩, ⟨16, q⟩] :=
  ⟨fun f hf => by
    simp only [List.mem_cons, List.not_mem_nil, or_false] at hf
    rcases hf with rfl | rfl | rfl <;> exact ⟨by simp only; omega, by simp only; omega, by simp only; omega⟩, by simp, fun j hj => by
    have : j < 3 := hj
    match j, this with
    | 0, _ => exact ⟨w.heap.size, 0, rfl, by simp, Pack.alloc_cell _ _ _ _, Pack.alloc_cell _ _ _ _⟩
    | 1, _ => exact ⟨w.heap.size, 0, rfl, by simp, Pack.alloc_cell _ _ _ _, Pack.alloc_cell _ _ _ _⟩
    | 2, _ => exact ⟨w.heap.size, 0, rfl, by simp, Pack.alloc_cell _ _ _ _, Pack.alloc_cell _ _ _ _⟩⟩
theorem fds_four (w : World) {n m q s : Nat} (hn : n < 65536) (hm : m < 65536) (hq : q < 65536) (hs : s < 65536) : Pack.Fds (w.alloc (.cells #[.int .i64 16, .int .u64 (n : Int), .int .i64 16, .int .u64 (m : Int), .int .i64 16, .int .u64 (q : Int), .int .i64 16, .int .u64 (s : Int)] 178)) (some ⟨w.heap.size, 0, none⟩) [⟨16, n⟩, ⟨16, m⟩, ⟨16, q⟩, ⟨16, s⟩] :=
  ⟨fun f hf => by
    simp only [List.mem_cons, List.not_mem_nil, or_false] at hf
    rcases hf with rfl | rfl | rfl | rfl <;> exact ⟨by simp only; omega, by simp only; omega, by simp only; omega⟩, by simp, fun j hj => by
    have : j < 4 := hj
    match j, this with
    | 0, _ => exact ⟨w.heap.size, 0, rfl, by simp, Pack.alloc_cell _ _ _ _, Pack.alloc_cell _ _ _ _⟩
    | 1, _ => exact ⟨w.heap.size, 0, rfl, by simp, Pack.alloc_cell _ _ _ _, Pack.alloc_cell _ _ _ _⟩
    | 2, _ => exact ⟨w.heap.size, 0, rfl, by simp, Pack.alloc_cell _ _ _ _, Pack.alloc_cell _ _ _ _⟩
    | 3, _ => exact ⟨w.heap.size, 0, rfl, by simp, Pack.alloc_cell _ _ _ _, Pack.alloc_cell _ _ _ _⟩⟩

theorem three_any (w : World) {n m q : Nat} (hn : n < 65536) (hm : m < 65536) (hq : q < 65536) : Calls Tryz.prog 125 #[.slice (some ⟨w.heap.size, 0, none⟩) 3 3] (w.alloc (.cells #[.int .i64 16, .int .u64 (n : Int), .int .i64 16, .int .u64 (m : Int), .int .i64 16, .int .u64 (q : Int)] 178)) fun e w' => e = .returned (.tuple #[.int .u64 (nums n m q : Nat), .bool true]) ∧ Below w.heap.size w w' := by
  refine (Pack.pack_any _ 3 _ (fds_three w hn hm hq)).mono ?_
  rintro e w' ⟨rfl, hb⟩
  rw [pk_three hn hm hq]
  have hb0 := (Below.refl w.heap.size w).alloc (Nat.le_refl _) (.cells #[.int .i64 16, .int .u64 (n : Int), .int .i64 16, .int .u64 (m : Int), .int .i64 16, .int .u64 (q : Int)] 178)
  exact ⟨rfl, hb0.trans (hb.mono hb0.size)⟩
theorem four_any (w : World) {n m q s : Nat} (hn : n < 65536) (hm : m < 65536) (hq : q < 65536) (hs : s < 65536) : Calls Tryz.prog 125 #[.slice (some ⟨w.heap.size, 0, none⟩) 4 4] (w.alloc (.cells #[.int .i64 16, .int .u64 (n : Int), .int .i64 16, .int .u64 (m : Int), .int .i64 16, .int .u64 (q : Int), .int .i64 16, .int .u64 (s : Int)] 178)) fun e w' => e = .returned (.tuple #[.int .u64 (nums n m q + 281474976710656 * s : Nat), .bool true]) ∧ Below w.heap.size w w' := by
  refine (Pack.pack_any _ 4 _ (fds_four w hn hm hq hs)).mono ?_
  rintro e w' ⟨rfl, hb⟩
  rw [pk_four hn hm hq hs]
  have hb0 := (Below.refl w.heap.size w).alloc (Nat.le_refl _) (.cells #[.int .i64 16, .int .u64 (n : Int), .int .i64 16, .int .u64 (m : Int), .int .i64 16, .int .u64 (q : Int), .int .i64 16, .int .u64 (s : Int)] 178)
  exact ⟨rfl, hb0.trans (hb.mono hb0.size)⟩

/-- one word in a new row -/
theorem one_wds (w : World) {x : Nat} (h : x < 18446744073709551616) : Pack.Wds (w.alloc (.cells #[.int .u64 (x : Int)] 85)) (some ⟨w.heap.size, 0, none⟩) [x] :=
  ⟨fun y hy => by
    obtain rfl : y = x := by simpa using hy
    exact h, by simp, fun j hj => by
    have : j < 1 := hj
    match j, this with
    | 0, _ => exact ⟨w.heap.size, 0, rfl, by simp, Pack.alloc_cell _ _ _ _⟩⟩

/-- a word's bytes -/
theorem bytes_one (w : World) {x : Nat} (h : x < 18446744073709551616) : Calls Tryz.prog 70 #[.slice (some ⟨w.heap.size, 0, none⟩) 1 1] (w.alloc (.cells #[.int .u64 (x : Int)] 85)) fun e w' => ∃ (b o gc : Nat), e = .returned (.slice (some ⟨b, o, none⟩) 8 gc) ∧ 8 ≤ gc ∧ Crc.Bts w' (some ⟨b, o, none⟩) (six x) ∧ Below w.heap.size w w' := by
  refine (Pack.bytes_any _ 1 _ (one_wds w h) (by simp)).mono ?_
  rintro e w' ⟨G, gc, rfl, hc, hw, hb⟩
  have hb0 := (Below.refl w.heap.size w).alloc (Nat.le_refl _) (.cells #[.int .u64 (x : Int)] 85)
  have e8 : Pack.wflat [x] = Pack.wb x := by simp [Pack.wflat]
  rw [e8] at hw
  obtain ⟨b, o, rfl, _, _⟩ := hw.at' 0 (by rw [Pack.wb_len]; omega)
  refine ⟨b, o, gc, rfl, hc, ⟨six_byt x, by rw [six_len]; omega, fun j hj => ?_⟩, hb0.trans (hb.mono hb0.size)⟩
  rw [six_len] at hj
  obtain ⟨b', o', e, hlt, hc⟩ := hw.at' j (by rw [Pack.wb_len]; omega)
  refine ⟨b', o', e, hlt, hc.trans ?_⟩
  have : (six x)[j]'(by rw [six_len]; exact hj) = (Pack.wb x)[j]'(by rw [Pack.wb_len]; omega) := by
    unfold six
    rw [List.getElem_take]
    rfl
  rw [this]

/-- a value, once it is there -/
def on (b : Bool) (v : Value) : Value := bif b then v else undef
theorem on_true (v : Value) : on true v = v := rfl
theorem on_false (v : Value) : on false v = undef := rfl
/-- a field -/
def fv (n : Nat) : Value := .agg #[.int .i64 16, .int .u64 (n : Int)]
/-- where a variable lies -/
def ptr (p : Nat) : Value := .pointer (some ⟨p, 0, none⟩)

/-- the three variables of Encode: which of them are made, and where they lie -/
structure St (w0 : World) (N : Nat) (s c n : Int) (x y z : Bool) (p1 p2 p3 : Nat) (W : World) : Prop where
  box : Box W N s c n
  below : Below N w0 W
  f1 : x = true → Fw W p1 0 0 ∧ N < p1
  f2 : y = true → Fw W p2 0 0 ∧ N < p2
  f3 : z = true → Fw W p3 0 0 ∧ N < p3
  d12 : x = true → y = true → p1 ≠ p2
  d13 : x = true → z = true → p1 ≠ p3
  d23 : y = true → z = true → p2 ≠ p3
section
variable {w0 W W' : World} {N p1 p2 p3 : Nat} {s c n : Int} {x y z : Bool}
theorem St.keep (h : St w0 N s c n x y z p1 p2 p3 W) (hb : Below W.heap.size W W') : St w0 N s c n x y z p1 p2 p3 W' :=
  ⟨h.box.keep hb, h.below.trans (hb.mono (Nat.le_of_lt h.box.lt)), fun e => ⟨(h.f1 e).1.keep hb, (h.f1 e).2⟩, fun e => ⟨(h.f2 e).1.keep hb, (h.f2 e).2⟩, fun e => ⟨(h.f3 e).1.keep hb, (h.f3 e).2⟩, h.d12, h.d13, h.d23⟩
theorem St.new1 (h : St w0 N s c n x y z p1 p2 p3 W) (t : TypeId) : St w0 N s c n true y z W.heap.size p2 p3 (W.alloc (.cells #[.int .i64 0, .int .u64 0] t)) := by
  have hb := (Below.refl W.heap.size W).alloc (Nat.le_refl _) (.cells #[.int .i64 0, .int .u64 0] t)
  have hk := h.keep hb
  exact ⟨hk.box, hk.below, fun _ => ⟨fw_new W 0 0 t, h.box.lt⟩, hk.f2, hk.f3, fun _ e => Nat.ne_of_gt (h.f2 e).1.lt, fun _ e => Nat.ne_of_gt (h.f3 e).1.lt, hk.d23⟩
theorem St.new2 (h : St w0 N s c n x y z p1 p2 p3 W) (t : TypeId) : St w0 N s c n x true z p1 W.heap.size p3 (W.alloc (.cells #[.int .i64 0, .int .u64 0] t)) := by
  have hb := (Below.refl W.heap.size W).alloc (Nat.le_refl _) (.cells #[.int .i64 0, .int .u64 0] t)
  have hk := h.keep hb
  exact ⟨hk.box, hk.below, hk.f1, fun _ => ⟨fw_new W 0 0 t, h.box.lt⟩, hk.f3, fun e _ => Nat.ne_of_lt (h.f1 e).1.lt, hk.d13, fun _ e => Nat.ne_of_gt (h.f3 e).1.lt⟩
theorem St.new3 (h : St w0 N s c n x y z p1 p2 p3 W) (t : TypeId) : St w0 N s c n x y true p1 p2 W.heap.size (W.alloc (.cells #[.int .i64 0, .int .u64 0] t)) := by
  have hb := (Below.refl W.heap.size W).alloc (Nat.le_refl _) (.cells #[.int .i64 0, .int .u64 0] t)
  have hk := h.keep hb
  exact ⟨hk.box, hk.below, hk.f1, hk.f2, fun _ => ⟨fw_new W 0 0 t, h.box.lt⟩, hk.d12, fun e _ => Nat.ne_of_lt (h.f1 e).1.lt, fun e _ => Nat.ne_of_lt (h.f2 e).1.lt⟩
end

/-- the states of the region of slot.go:47: how many calls are done, which variables are made -/
def lst (s : Nat × Bool × Bool × Bool) : Array Bool := #[true, true, Nat.blt 0 s.1, true, true, Nat.blt 1 s.1, true, true, Nat.blt 2 s.1, Nat.blt 3 s.1, s.2.1, s.2.2.1, s.2.2.2, false, false, false]
def left (s : Nat × Bool × Bool × Bool) : Nat := (4 - s.1) + ((!s.2.1).toNat + ((!s.2.2.1).toNat + (!s.2.2.2).toNat))
def calls : Nat → List Nat
  | 0 => [2]
  | 1 => [5]
  | 2 => [8]
  | 3 => [9]
  | _ => []
def rdy (s : Nat × Bool × Bool × Bool) : List Nat := calls s.1 ++ ((bif s.2.1 then [] else [10]) ++ ((bif s.2.2.1 then [] else [11]) ++ (bif s.2.2.2 then [] else [12])))
def act (N s c q : Nat) (n : Int) (k : Nat) (x y z : Bool) (p1 p2 p3 : Nat) : Act :=
  { tmps := #[.agg #[.int .i64 (s : Int), .int .i64 (c : Int), .int .i64 n], .pointer (some ⟨N, 0, none⟩), .int .u64 0, .int .i64 0, on x (ptr p1), on y (ptr p2), on z (ptr p3), undef, undef, undef, undef, undef, .agg #[.int .i64 (s : Int), .int .i64 (c : Int), .int .i64 n], .bool true, .bool false, .pointer (some ⟨N, 0, none⟩), .int .i64 (s : Int), on (Nat.blt 0 k) (fv s), .pointer (some ⟨N, 1, none⟩), .int .i64 (c : Int), on (Nat.blt 1 k) (fv c), .pointer (some ⟨N, 2, none⟩), .int .i64 n, on (Nat.blt 2 k) (.int .i64 (q : Int)), on (Nat.blt 3 k) (fv q), undef, undef, undef, undef, undef, undef, undef, undef, undef, undef, undef, undef, undef, undef, undef, undef, undef, undef, undef, undef, undef, undef, undef, undef, undef, undef], defers := [] }
theorem left_pos {k : Nat} {x y z : Bool} (hk : k ≤ 4) (h : left (k, x, y, z) = 0) : k = 4 ∧ x = true ∧ y = true ∧ z = true := by
  unfold left at h
  cases x <;> cases y <;> cases z <;> simp at h ⊢ <;> omega
theorem left_call {k : Nat} {x y z : Bool} (hk : k < 4) : left (k, x, y, z) = left (k + 1, x, y, z) + 1 := by
  unfold left
  simp only
  omega
theorem left_one (k : Nat) (y z : Bool) : left (k, false, y, z) = left (k, true, y, z) + 1 := by
  unfold left
  simp
  omega
theorem left_two (k : Nat) (x z : Bool) : left (k, x, false, z) = left (k, x, true, z) + 1 := by
  unfold left
  simp
  omega
theorem left_three (k : Nat) (x y : Bool) : left (k, x, y, false) = left (k, x, y, true) + 1 := by
  unfold left
  simp
  omega

set_option maxHeartbeats 2000000 in
set_option maxRecDepth 100000 in
theorem encode_yes (w : World) (s c q : Nat) (n : Int) (hn : n = nx q) (hm : may s c (nx q) = true) :
    Calls Tryz.prog 92 #[.agg #[.int .i64 (s : Int), .int .i64 (c : Int), .int .i64 n]] w fun r w' => r = .returned (.tuple #[.int .u64 (wd s c q : Nat), .int .i64 0]) ∧ Below w.heap.size w w' := by
  obtain ⟨h1, h2, h3, h4⟩ := may_lt hm
  have hs64 : s < 65536 := by omega
  have hc64 : c < 65536 := by omega
  have HM := Lib.hid (fun w => may_any w s c n)
  have HE := Lib.hid (show may s c n = true by rw [hn]; exact hm)
  have HT := Lib.hid (fun w => toField_any w n q hn h4)
  have HF1 := Lib.hid (fun w => field_any w s hs64)
  have HF2 := Lib.hid (fun w => field_any w c hc64)
  have HF3 := Lib.hid (fun w => field_any w q h4)
  have HF4 := Lib.hid (fun w => field_any w (sum s c q) (sum_lt s c q))
  have HP3 := Lib.hid (fun w => three_any w hs64 hc64 h4)
  have HP4 := Lib.hid (fun w => four_any w hs64 hc64 h4 (sum_lt s c q))
  have hnl := nums_lt hs64 hc64 h4
  have HBY := Lib.hid (fun w => bytes_one w (x := nums s c q) (by omega))
  have hsl := sum_lt s c q
  clear hm hn h1 h2 h3
  have HB := Lib.hid ((Below.refl w.heap.size w).alloc (Nat.le_refl _) (.cells #[.int .i64 (s : Int), .int .i64 (c : Int), .int .i64 n] 51))
  have HX := Lib.hid (boxed w s c n 51)
  go_enter Tryz.func92, Tryz.ntmps92
  go_wp2_with fail
  refine (HM.out _).mono ?_
  rintro e w1 ⟨rfl, hb⟩
  rw [HE.out]
  have HB1 := Lib.hid (HB.out.trans (hb.mono HB.out.size))
  have HX1 := Lib.hid (HX.out.keep hb)
  clear hb HX HB HM HE
  have hk0 := HX1.out.c0
  have hk1 := HX1.out.c1
  have hk2 := HX1.out.c2
  have hsz : w.heap.size < w1.heap.size := HX1.out.lt
  go_wp2
  refine wp_region_held_drew (S := (fun W' => Box W' w.heap.size s c n)) (by kernel_rfl) HX1.out.drew (fun hHeld => ?_)
  clear hk0 hk1 hk2
  refine take_yes 0 15 (.pointer (some ⟨w.heap.size, 0, none⟩)) rfl rfl (by kernel_rfl) (by kernel_rfl) (by kernel_rfl) (fun _ _ _ h => h) rfl ?_ (by assumption) ?_
  · intro W hSw
    try dsimp only at hSw
    go_simp
  simp only [Act.put, List.setIfInBounds_toArray, List.set_cons_zero, List.set_cons_succ]
  refine take_yes 1 16 (.int .i64 (s : Int)) rfl rfl (by kernel_rfl) (by kernel_rfl) (by kernel_rfl) (fun _ _ _ h => h) rfl ?_ (by assumption) ?_
  · intro W hSw
    try dsimp only at hSw
    have hv := hSw.c0
    go_simp
  simp only [Act.put, List.setIfInBounds_toArray, List.set_cons_zero, List.set_cons_succ]
  refine take_yes 3 18 (.pointer (some ⟨w.heap.size, 1, none⟩)) rfl rfl (by kernel_rfl) (by kernel_rfl) (by kernel_rfl) (fun _ _ _ h => h) rfl ?_ (by assumption) ?_
  · intro W hSw
    try dsimp only at hSw
    go_simp
  simp only [Act.put, List.setIfInBounds_toArray, List.set_cons_zero, List.set_cons_succ]
  refine take_yes 4 19 (.int .i64 (c : Int)) rfl rfl (by kernel_rfl) (by kernel_rfl) (by kernel_rfl) (fun _ _ _ h => h) rfl ?_ (by assumption) ?_
  · intro W hSw
    try dsimp only at hSw
    have hv := hSw.c1
    go_simp
  simp only [Act.put, List.setIfInBounds_toArray, List.set_cons_zero, List.set_cons_succ]
  refine take_yes 6 21 (.pointer (some ⟨w.heap.size, 2, none⟩)) rfl rfl (by kernel_rfl) (by kernel_rfl) (by kernel_rfl) (fun _ _ _ h => h) rfl ?_ (by assumption) ?_
  · intro W hSw
    try dsimp only at hSw
    go_simp
  simp only [Act.put, List.setIfInBounds_toArray, List.set_cons_zero, List.set_cons_succ]
  refine take_yes 7 22 (.int .i64 n) rfl rfl (by kernel_rfl) (by kernel_rfl) (by kernel_rfl) (fun _ _ _ h => h) rfl ?_ (by assumption) ?_
  · intro W hSw
    try dsimp only at hSw
    have hv := hSw.c2
    go_simp
  simp only [Act.put, List.setIfInBounds_toArray, List.set_cons_zero, List.set_cons_succ]
  refine any_states (σ := Nat × Bool × Bool × Bool) lst left rdy (fun st a W => st.1 ≤ 4 ∧ ∃ p1 p2 p3, a = act w.heap.size s c q n st.1 st.2.1 st.2.2.1 st.2.2.2 p1 p2 p3 ∧ St w w.heap.size s c n st.2.1 st.2.2.1 st.2.2.2 p1 p2 p3 W) 3 ?_ ?_ ?_ 7 (0, false, false, false) _ _ rfl ⟨by omega, 0, 0, 0, rfl, HX1.out.drew, HB1.out.drew, (fun e => by cases e), (fun e => by cases e), (fun e => by cases e), (fun e => by cases e), (fun e => by cases e), (fun e => by cases e)⟩
  · rintro ⟨k, x, y, z⟩ a W ⟨hk, _⟩ hn
    have hk' : k = 0 ∨ k = 1 ∨ k = 2 ∨ k = 3 ∨ k = 4 := by simp only at hk; omega
    clear hk
    rcases hk' with rfl | rfl | rfl | rfl | rfl <;> cases x <;> cases y <;> cases z <;> first | exact absurd rfl hn | exact ⟨by kernel_rfl, by decide⟩
  · rintro ⟨k, x, y, z⟩ a W ⟨hk, p1, p2, p3, rfl, hst⟩ hn i hi
    clear hn
    simp only [rdy, List.mem_append] at hi hst hk ⊢
    have HS := Lib.hid hst
    clear hst
    rcases hi with hi | hi | hi | hi
    · have hk' : k = 0 ∨ k = 1 ∨ k = 2 ∨ k = 3 ∨ k = 4 := by omega
      clear hk
      rcases hk' with rfl | rfl | rfl | rfl | rfl
      · obtain rfl : i = 2 := by simpa [calls] using hi
        refine op_step rfl (fun K hK => ?_)
        simp only [act, Nat.blt, Nat.ble, on_false]
        go_simp
        go_at_call 132
        with_reducible refine (HF1.out _).mono ?_
        rintro e W' ⟨rfl, hb⟩
        exact hK.out _ _ ⟨(1, x, y, z), rfl, left_call (by omega), (HS.out.keep hb).box, by omega, p1, p2, p3, rfl, (HS.out.keep hb)⟩
      · obtain rfl : i = 5 := by simpa [calls] using hi
        refine op_step rfl (fun K hK => ?_)
        simp only [act, Nat.blt, Nat.ble, on_true, on_false]
        go_simp
        go_at_call 132
        with_reducible refine (HF2.out _).mono ?_
        rintro e W' ⟨rfl, hb⟩
        exact hK.out _ _ ⟨(2, x, y, z), rfl, left_call (by omega), (HS.out.keep hb).box, by omega, p1, p2, p3, rfl, (HS.out.keep hb)⟩
      · obtain rfl : i = 8 := by simpa [calls] using hi
        refine op_step rfl (fun K hK => ?_)
        simp only [act, Nat.blt, Nat.ble, on_true, on_false]
        go_simp
        go_at_call 133
        with_reducible refine (HT.out _).mono ?_
        rintro e W' ⟨rfl, rfl⟩
        exact hK.out _ _ ⟨(3, x, y, z), rfl, left_call (by omega), HS.out.box, by omega, p1, p2, p3, rfl, HS.out⟩
      · obtain rfl : i = 9 := by simpa [calls] using hi
        refine op_step rfl (fun K hK => ?_)
        simp only [act, Nat.blt, Nat.ble, on_true, on_false]
        go_simp
        go_at_call 132
        with_reducible refine (HF3.out _).mono ?_
        rintro e W' ⟨rfl, hb⟩
        exact hK.out _ _ ⟨(4, x, y, z), rfl, left_call (by omega), (HS.out.keep hb).box, by omega, p1, p2, p3, rfl, (HS.out.keep hb)⟩
      · simp [calls] at hi
    · cases x with
      | true => simp at hi
      | false =>
        obtain rfl : i = 10 := by simpa using hi
        refine op_step rfl (fun K hK => ?_)
        simp only [act]
        go_simp
        exact hK.out _ _ ⟨(k, true, y, z), rfl, left_one _ _ _, (HS.out.new1 _).box, hk, W.heap.size, p2, p3, rfl, HS.out.new1 _⟩
    · cases y with
      | true => simp at hi
      | false =>
        obtain rfl : i = 11 := by simpa using hi
        refine op_step rfl (fun K hK => ?_)
        simp only [act]
        go_simp
        exact hK.out _ _ ⟨(k, x, true, z), rfl, left_two _ _ _, (HS.out.new2 _).box, hk, p1, W.heap.size, p3, rfl, HS.out.new2 _⟩
    · cases z with
      | true => simp at hi
      | false =>
        obtain rfl : i = 12 := by simpa using hi
        refine op_step rfl (fun K hK => ?_)
        simp only [act]
        go_simp
        exact hK.out _ _ ⟨(k, x, y, true), rfl, left_three _ _ _, (HS.out.new3 _).box, hk, p1, p2, W.heap.size, rfl, HS.out.new3 _⟩
  · rintro ⟨k, x, y, z⟩ a W ⟨hk, p1, p2, p3, rfl, hst⟩ hn
    obtain ⟨rfl, rfl, rfl, rfl⟩ := left_pos hk hn
    clear hk hn
    have HS := Lib.hid hst
    clear hst
    simp only [act, Nat.blt, Nat.ble, on_true, ptr, fv]
    obtain ⟨ha1, hb1⟩ := HS.out.f1 rfl
    obtain ⟨ha2, hb2⟩ := HS.out.f2 rfl
    obtain ⟨ha3, hb3⟩ := HS.out.f3 rfl
    have hd12 := HS.out.d12 rfl rfl
    have hd13 := HS.out.d13 rfl rfl
    have hd23 := HS.out.d23 rfl rfl
    have HBX := Lib.hid HS.out.box
    have HBL := Lib.hid HS.out.below
    have hg0 := ha1.c0
    have hg1 := ha1.c1
    have hg2 := ha1.f 0
    have hg3 := ha1.f 1
    have H1 := Lib.hid ha1
    have H2 := Lib.hid ha2
    have H3 := Lib.hid ha3
    clear ha1 ha2 ha3 HS hHeld
    refine wpAnyH_ready (rs := [13]) (by kernel_rfl) (by simp) ?_
    refine AllReadyH.cons rfl (fun K hK => ?_) AllReadyH.nil
    go_simp
    refine hK.out _ _ (HBX.out.other (by omega) _ _) (fun _ => ?_)
    clear hK K hg0 hg1 hg2 hg3
    have HBX_1 := Lib.hid (HBX.out.other (show w.heap.size ≠ p1 by omega) (.int .i64 16) (.int .u64 (s : Int)))
    have HBL_1 := Lib.hid ((HBL.out.setCell (p := ⟨p1, 0, none⟩) (Nat.le_of_lt hb1) (.int .i64 16)).setCell (p := ⟨p1, 1, none⟩) (Nat.le_of_lt hb1) (.int .u64 (s : Int)))
    have H1_1 := Lib.hid (H1.out.set 16 s)
    have H2_1 := Lib.hid (H2.out.other (show p2 ≠ p1 by omega) (.int .i64 16) (.int .u64 (s : Int)))
    have H3_1 := Lib.hid (H3.out.other (show p3 ≠ p1 by omega) (.int .i64 16) (.int .u64 (s : Int)))
    clear HBX HBL H1 H2 H3
    generalize (W.setCell ⟨p1, 0, none⟩ (.int .i64 16)).setCell ⟨p1, 1, none⟩ (.int .u64 (s : Int)) = W1 at *
    have hg0_1 := H2_1.out.c0
    have hg1_1 := H2_1.out.c1
    have hg2_1 := H2_1.out.f 0
    have hg3_1 := H2_1.out.f 1
    refine wpAnyH_ready (rs := [14]) (by kernel_rfl) (by simp) ?_
    refine AllReadyH.cons rfl (fun K hK => ?_) AllReadyH.nil
    go_simp
    refine hK.out _ _ (HBX_1.out.other (by omega) _ _) (fun _ => ?_)
    clear hK K hg0_1 hg1_1 hg2_1 hg3_1
    have HBX_2 := Lib.hid (HBX_1.out.other (show w.heap.size ≠ p2 by omega) (.int .i64 16) (.int .u64 (c : Int)))
    have HBL_2 := Lib.hid ((HBL_1.out.setCell (p := ⟨p2, 0, none⟩) (Nat.le_of_lt hb2) (.int .i64 16)).setCell (p := ⟨p2, 1, none⟩) (Nat.le_of_lt hb2) (.int .u64 (c : Int)))
    have H1_2 := Lib.hid (H1_1.out.other (show p1 ≠ p2 by omega) (.int .i64 16) (.int .u64 (c : Int)))
    have H2_2 := Lib.hid (H2_1.out.set 16 c)
    have H3_2 := Lib.hid (H3_1.out.other (show p3 ≠ p2 by omega) (.int .i64 16) (.int .u64 (c : Int)))
    clear HBX_1 HBL_1 H1_1 H2_1 H3_1
    generalize (W1.setCell ⟨p2, 0, none⟩ (.int .i64 16)).setCell ⟨p2, 1, none⟩ (.int .u64 (c : Int)) = W2 at *
    have hg0_2 := H3_2.out.c0
    have hg1_2 := H3_2.out.c1
    have hg2_2 := H3_2.out.f 0
    have hg3_2 := H3_2.out.f 1
    refine wpAnyH_ready (rs := [15]) (by kernel_rfl) (by simp) ?_
    refine AllReadyH.cons rfl (fun K hK => ?_) AllReadyH.nil
    go_simp
    refine hK.out _ _ (HBX_2.out.other (by omega) _ _) (fun _ => ?_)
    clear hK K hg0_2 hg1_2 hg2_2 hg3_2
    have HBX_3 := Lib.hid (HBX_2.out.other (show w.heap.size ≠ p3 by omega) (.int .i64 16) (.int .u64 (q : Int)))
    have HBL_3 := Lib.hid ((HBL_2.out.setCell (p := ⟨p3, 0, none⟩) (Nat.le_of_lt hb3) (.int .i64 16)).setCell (p := ⟨p3, 1, none⟩) (Nat.le_of_lt hb3) (.int .u64 (q : Int)))
    have H1_3 := Lib.hid (H1_2.out.other (show p1 ≠ p3 by omega) (.int .i64 16) (.int .u64 (q : Int)))
    have H2_3 := Lib.hid (H2_2.out.other (show p2 ≠ p3 by omega) (.int .i64 16) (.int .u64 (q : Int)))
    have H3_3 := Lib.hid (H3_2.out.set 16 q)
    clear HBX_2 HBL_2 H1_2 H2_2 H3_2
    generalize (W2.setCell ⟨p3, 0, none⟩ (.int .i64 16)).setCell ⟨p3, 1, none⟩ (.int .u64 (q : Int)) = W3 at *
    refine wpAnyH_done (by kernel_rfl) ?_ _
    have hg0 := H1_3.out.c0
    have hg1 := H1_3.out.c1
    have hg2 := H2_3.out.c0
    have hg3 := H2_3.out.c1
    have hg4 := H3_3.out.c0
    have hg5 := H3_3.out.c1
    clear HBX_3 HF1 HF2 HF3 HT HX1 HB1 hsz
    go_wp2_with fail
    refine (HP3.out _).mono ?_
    rintro e W4 ⟨rfl, hb⟩
    have HBL_4 := Lib.hid (HBL_3.out.trans (hb.mono HBL_3.out.size))
    have H1_4 := Lib.hid (H1_3.out.keep hb)
    have H2_4 := Lib.hid (H2_3.out.keep hb)
    have H3_4 := Lib.hid (H3_3.out.keep hb)
    clear hb hg0 hg1 hg2 hg3 hg4 hg5 HBL_3 H1_3 H2_3 H3_3 HP3
    go_wp2_with fail
    refine (HBY.out _).mono ?_
    rintro e W5 ⟨b, o, gc, rfl, hgc, hbt, hb⟩
    have HBL_5 := Lib.hid (HBL_4.out.trans (hb.mono HBL_4.out.size))
    have H1_5 := Lib.hid (H1_4.out.keep hb)
    have H2_5 := Lib.hid (H2_4.out.keep hb)
    have H3_5 := Lib.hid (H3_4.out.keep hb)
    have hs16 := Crc.sum16_one gc 1 hbt
    rw [six_len, show Crc.S16 (six (nums s c q)) = sum s c q from rfl] at hs16
    have HS16 := Lib.hid hs16
    clear hb hbt hs16 HBL_4 H1_4 H2_4 H3_4 HBY
    go_wp2_with fail
    refine HS16.out.mono ?_
    rintro e w' ⟨rfl, rfl⟩
    have hba := (Below.refl W5.heap.size W5).alloc (Nat.le_refl _) (.cells #[.slice (some ⟨b, o, none⟩) 6 gc] 59)
    have HBL_6 := Lib.hid (HBL_5.out.trans (hba.mono HBL_5.out.size))
    have H1_6 := Lib.hid (H1_5.out.keep hba)
    have H2_6 := Lib.hid (H2_5.out.keep hba)
    have H3_6 := Lib.hid (H3_5.out.keep hba)
    clear hba HS16 HBL_5 H1_5 H2_5 H3_5
    generalize W5.alloc (.cells #[.slice (some ⟨b, o, none⟩) 6 gc] 59) = W6 at *
    have hg0 := H1_6.out.c0
    have hg1 := H1_6.out.c1
    have hg2 := H2_6.out.c0
    have hg3 := H2_6.out.c1
    have hg4 := H3_6.out.c0
    have hg5 := H3_6.out.c1
    have hws : IntKind.wrap .i64 ((sum s c q : Nat) : Int) = ((sum s c q : Nat) : Int) := by rw [IntKind.wrap_i64]; omega
    go_wp2
    go_region_held3 (fun W' => (W'.cell? ⟨p1, 0, none⟩ = some (.int .i64 16) ∧ W'.cell? ⟨p1, 1, none⟩ = some (.int .u64 (s : Int))) ∧ (W'.cell? ⟨p2, 0, none⟩ = some (.int .i64 16) ∧ W'.cell? ⟨p2, 1, none⟩ = some (.int .u64 (c : Int))) ∧ (W'.cell? ⟨p3, 0, none⟩ = some (.int .i64 16) ∧ W'.cell? ⟨p3, 1, none⟩ = some (.int .u64 (q : Int)))) (go_keep)
      (first
      | (go_at_call 132
         with_reducible refine (HF4.out _).mono ?_
         rintro e W7 ⟨rfl, hb⟩
         have HBL_7 := Lib.hid (HBL_6.out.drew.trans (hb.mono HBL_6.out.drew.size))
         have H1_7 := Lib.hid (H1_6.out.drew.keep hb)
         have H2_7 := Lib.hid (H2_6.out.drew.keep hb)
         have H3_7 := Lib.hid (H3_6.out.drew.keep hb)
         have hh0 := H1_7.out.c0
         have hh1 := H1_7.out.c1
         have hh2 := H2_7.out.c0
         have hh3 := H2_7.out.c1
         have hh4 := H3_7.out.c0
         have hh5 := H3_7.out.c1
         clear hb)
      | (go_at_call 125
         with_reducible refine (HP4.out _).mono ?_
         rintro e W8 ⟨rfl, hb⟩
         have HBL_8 := Lib.hid (HBL_7.out.trans (hb.mono HBL_7.out.size))
         have H1_8 := Lib.hid (H1_7.out.keep hb)
         have H2_8 := Lib.hid (H2_7.out.keep hb)
         have H3_8 := Lib.hid (H3_7.out.keep hb)
         have hi0 := H1_8.out.c0
         have hi1 := H1_8.out.c1
         have hi2 := H2_8.out.c0
         have hi3 := H2_8.out.c1
         have hi4 := H3_8.out.c0
         have hi5 := H3_8.out.c1
         clear hb))
    go_wp2
    go_ret2
    exact ⟨rfl, HBL_8.out⟩
end Slo
end Go.Proofs.YtcojgpjappjobaaGreatDoor
/- Decode, walked. -/
namespace Go.Proofs.YtcojgpjappjobaaGreatDoor
open Go.RowKit Go.MapKept
namespace Slo
open Lin

/-- a slot, zero if there is none -/
def gv : Option (Nat × Nat × Nat) → Value
  | some (s, c, q) => .agg #[.int .i64 (s : Int), .int .i64 (c : Int), .int .i64 (nx q)]
  | none => .agg #[.int .i64 0, .int .i64 0, .int .i64 0]
/-- the error -/
def ev : Option (Nat × Nat × Nat) → Int
  | some _ => 0
  | none => 2

theorem nts_four (w : World) : Pack.Nts (w.alloc (.cells #[.int .i64 16, .int .i64 16, .int .i64 16, .int .i64 16] 3)) (some ⟨w.heap.size, 0, none⟩) [16, 16, 16, 16] :=
  ⟨fun f hf => by
    obtain rfl : f = 16 := by simpa using hf
    exact ⟨by decide, by decide⟩, by decide, fun j hj => by
    have : j < 4 := hj
    match j, this with
    | 0, _ => exact ⟨w.heap.size, 0, rfl, by simp, Pack.alloc_cell _ _ _ _⟩
    | 1, _ => exact ⟨w.heap.size, 0, rfl, by simp, Pack.alloc_cell _ _ _ _⟩
    | 2, _ => exact ⟨w.heap.size, 0, rfl, by simp, Pack.alloc_cell _ _ _ _⟩
    | 3, _ => exact ⟨w.heap.size, 0, rfl, by simp, Pack.alloc_cell _ _ _ _⟩⟩

theorem split_any (w : World) (N : Nat) (hN : w.heap.size = N) (x s c q : Nat) (h : x < 18446744073709551616) (hs : s = x % 65536) (hc : c = x / 65536 % 65536) (hq : q = x / 4294967296 % 65536) : Calls Tryz.prog 112 #[.int .u64 (x : Int), .slice (some ⟨N, 0, none⟩) 4 4] (w.alloc (.cells #[.int .i64 16, .int .i64 16, .int .i64 16, .int .i64 16] 3)) fun e w' => ∃ (b o gc : Nat), e = .returned (.tuple #[.slice (some ⟨b, o, none⟩) 4 gc, .bool true]) ∧ (b < w'.heap.size ∧ w'.cell? ⟨b, o, none⟩ = some (.int .u64 (s : Int)) ∧ w'.cell? ⟨b, o + 1, none⟩ = some (.int .u64 (c : Int)) ∧ w'.cell? ⟨b, o + 2, none⟩ = some (.int .u64 (q : Int))) ∧ Below w.heap.size w w' := by
  subst hN hs hc hq
  refine (Pack.split_any x h _ 4 _ (nts_four w)).mono ?_
  rintro e w' ⟨G, gc, rfl, hw, hb⟩
  have hb0 := (Below.refl w.heap.size w).alloc (Nat.le_refl _) (.cells #[.int .i64 16, .int .i64 16, .int .i64 16, .int .i64 16] 3)
  rw [split_four h] at hw ⊢
  simp only [Option.getD_some] at hw
  obtain ⟨b, o, rfl, hlt, hc0⟩ := hw.at' 0 (by simp)
  obtain ⟨b', o', e, _, hc1⟩ := hw.at' 1 (by simp)
  injection e with e
  injection e with e1 e2
  subst e1 e2
  obtain ⟨b', o', e, _, hc2⟩ := hw.at' 2 (by simp)
  injection e with e
  injection e with e1 e2
  subst e1 e2
  exact ⟨b, o, gc, rfl, ⟨hlt, hc0, hc1, hc2⟩, hb0.trans (hb.mono hb0.size)⟩

set_option maxHeartbeats 2000000 in
set_option maxRecDepth 100000 in
theorem decode_any (w : World) (x : Nat) (hx : x < 18446744073709551616) :
    Calls Tryz.prog 66 #[.int .u64 (x : Int)] w fun r w' => r = .returned (.tuple #[gv (dec x), .int .i64 (ev (dec x))]) ∧ Below w.heap.size w w' := by
  obtain ⟨s, hs⟩ : ∃ s, s = x % 65536 := ⟨_, rfl⟩
  obtain ⟨c, hc⟩ : ∃ c, c = x / 65536 % 65536 := ⟨_, rfl⟩
  obtain ⟨q, hq⟩ : ∃ q, q = x / 4294967296 % 65536 := ⟨_, rfl⟩
  have hs1 : s < 65536 := by omega
  have hc1 : c < 65536 := by omega
  have hq1 : q < 65536 := by omega
  have HB := Lib.hid ((Below.refl w.heap.size w).alloc (Nat.le_refl _) (.cells #[.int .i64 0, .int .i64 0, .int .i64 0] 51))
  have HX := Lib.hid (owned w 0 0 0 51)
  have HS := Lib.hid (split_any (w.alloc (.cells #[.int .i64 0, .int .i64 0, .int .i64 0] 51)) (w.heap.size + 1) (World.size_alloc _ _) x s c q hx hs hc hq)
  have HD := Lib.hid (show dec x = if may s c (nx q) = true ∧ x = wd s c q then some (s, c, q) else none by
    unfold dec
    simp only [← hs, ← hc, ← hq])
  have HTN := Lib.hid (fun w => toNext_any w q)
  obtain ⟨n, hn⟩ : ∃ n, n = nx q := ⟨_, rfl⟩
  rw [← hn] at HTN
  have HN := Lib.hid hn
  have hws : IntKind.wrap .i64 (s : Int) = (s : Int) := by rw [IntKind.wrap_i64]; omega
  have hwc : IntKind.wrap .i64 (c : Int) = (c : Int) := by rw [IntKind.wrap_i64]; omega
  have hwq : IntKind.wrap .i64 (q : Int) = (q : Int) := by rw [IntKind.wrap_i64]; omega
  clear hs hc hq hn
  go_enter Tryz.func66, Tryz.ntmps66
  go_wp2_with fail
  refine HS.out.mono ?_
  rintro e w1 ⟨b1, o1, gc, rfl, ⟨hb1, hq0, hq1, hq2⟩, hbw⟩
  have HX1 := Lib.hid (HX.out.keep hbw)
  have HB1 := Lib.hid (HB.out.trans (hbw.mono HB.out.size))
  have hz1 : w.heap.size < w1.heap.size := HX1.out.box.lt
  clear hbw HS HX HB
  go_wp2
  go_region_held3 (fun W' => W'.cell? ⟨b1, o1, none⟩ = some (.int .u64 (s : Int)) ∧ W'.cell? ⟨b1, o1 + 1, none⟩ = some (.int .u64 (c : Int)) ∧ W'.cell? ⟨b1, o1 + 2, none⟩ = some (.int .u64 (q : Int))) (go_keep)
    (first
    | (go_at_call 114
       with_reducible refine (HTN.out _).mono ?_
       rintro e w' ⟨rfl, rfl⟩))
  all_goals
    (have hba := (Below.refl w1.heap.size w1).alloc (Nat.le_refl _) (.cells #[.int .i64 (s : Int), .int .i64 (c : Int), .int .i64 n] 51)
     have HX2 := Lib.hid (HX1.out.keep hba).drew
     have HG2 := Lib.hid (boxed w1 s c n 51).drew
     have HB2 := Lib.hid (HB1.out.trans (hba.mono HB1.out.size)).drew
     clear hws hwc hwq hba HX1 HB1 hb1 hq0 hq1 hq2
     go_wp2_with fail
     generalize (w1.alloc (.cells #[.int .i64 (s : Int), .int .i64 (c : Int), .int .i64 n] 51)).drew = w2 at *
     generalize w1.heap.size = k1 at *
     cases hmay : may s c (nx q) with
     | false =>
       have HNO := Lib.hid (show dec x = none by rw [HD.out, if_neg (fun h => by rw [hmay] at h; simp at h)])
       refine (encode_no _ s c n (by rw [HN.out]; exact hmay)).mono ?_
       rintro e w3 ⟨rfl, hb3⟩
       have HX3 := Lib.hid (HX2.out.keep hb3)
       have HB3 := Lib.hid (HB2.out.trans (hb3.mono HB2.out.size))
       have hc0 := HX3.out.box.c0
       have hc1 := HX3.out.box.c1
       have hc2 := HX3.out.box.c2
       have hf0 := HX3.out.f 0
       have hf1 := HX3.out.f 1
       have hf2 := HX3.out.f 2
       clear hb3 hmay HX2 HB2 HD HN HG2
       go_wp2
       rw [HNO.out]
       refine bodyPost_ret (v := .tuple #[gv none, .int .i64 (ev none)]) ?_ rfl ⟨rfl, ?_⟩
       · simp [results, Tryz.results66, go_sem, gv, ev, hc0, hc1, hc2]
       · exact ((HB3.out.setCell (Nat.le_refl _) _).setCell (Nat.le_refl _) _).setCell (Nat.le_refl _) _
     | true =>
       refine (encode_yes _ s c q n HN.out hmay).mono ?_
       rintro e w3 ⟨rfl, hb3⟩
       have HX3 := Lib.hid (HX2.out.keep hb3)
       have HG3 := Lib.hid (HG2.out.keep hb3)
       have HB3 := Lib.hid (HB2.out.trans (hb3.mono HB2.out.size))
       have hc0 := HX3.out.box.c0
       have hc1 := HX3.out.box.c1
       have hc2 := HX3.out.box.c2
       have hf0 := HX3.out.f 0
       have hf1 := HX3.out.f 1
       have hf2 := HX3.out.f 2
       have hg0 := HG3.out.c0
       have hg1 := HG3.out.c1
       have hg2 := HG3.out.c2
       have HM := Lib.hid hmay
       clear hb3 hmay HX2 HB2 HG2
       by_cases hls : x = wd s c q
       · have HNO := Lib.hid (show dec x = some (s, c, q) by rw [HD.out, if_pos ⟨HM.out, hls⟩])
         have hbe : (((x : Nat) : Int) != ((wd s c q : Nat) : Int)) = false := by rw [← hls]; simp
         clear hls HD HM
         go_wp2
         rw [HNO.out]
         refine bodyPost_ret (v := .tuple #[gv (some (s, c, q)), .int .i64 (ev (some (s, c, q)))]) ?_ rfl ⟨rfl, ?_⟩
         · simp [results, Tryz.results66, go_sem, gv, ev, hc0, hc1, hc2, HN.out]
         · exact ((HB3.out.setCell (Nat.le_refl _) _).setCell (Nat.le_refl _) _).setCell (Nat.le_refl _) _
       · have HNO := Lib.hid (show dec x = none by rw [HD.out, if_neg (fun h => hls h.2)])
         have hbe : (((x : Nat) : Int) != ((wd s c q : Nat) : Int)) = true := by simp; omega
         clear hls HD HM
         go_wp2
         rw [HNO.out]
         refine bodyPost_ret (v := .tuple #[gv none, .int .i64 (ev none)]) ?_ rfl ⟨rfl, ?_⟩
         · simp [results, Tryz.results66, go_sem, gv, ev, hc0, hc1, hc2]
         · exact ((HB3.out.setCell (Nat.le_refl _) _).setCell (Nat.le_refl _) _).setCell (Nat.le_refl _) _)
end Slo
end Go.Proofs.YtcojgpjappjobaaGreatDoor
/- The document's May and Encode. -/
namespace Go.Proofs.YtcojgpjappjobaaGreatDoor
open Go.RowKit Go.MapKept
namespace Slo
open Lin

theorem ret_bool {a b : Bool} (h : a = true ↔ b = true) : Ending.returned (Value.bool a) = Ending.returned (Value.bool b) := by rw [Bool.eq_iff_iff.2 h]

set_option maxHeartbeats 1000000 in
theorem refMay_any (w : World) (s c n : Int) :
    Calls Tryz.prog 90 #[.agg #[.int .i64 s, .int .i64 c, .int .i64 n]] w fun r w' => r = .returned (.bool (may s c n)) ∧ Below w.heap.size w w' := by
  go_enter Tryz.func90, Tryz.ntmps90
  go_wp2
  all_goals go_ret
  all_goals refine ⟨ret_bool ?_, (Below.refl _ _).alloc (Nat.le_refl _) _⟩
  all_goals refine Iff.trans ?_ may_iff.symm
  all_goals unfold May
  all_goals simp only [decide_eq_true_eq, Bool.false_eq_true, false_iff] at *
  all_goals omega

theorem refEncode_no (w : World) (s c n : Int) (hm : may s c n = false) :
    Calls Tryz.prog 32 #[.agg #[.int .i64 s, .int .i64 c, .int .i64 n]] w fun r w' => r = .returned (.tuple #[.int .u64 0, .bool false]) ∧ Below w.heap.size w w' := by
  have HM := Lib.hid (fun w => refMay_any w s c n)
  have HE := Lib.hid hm
  clear hm
  have HB := Lib.hid ((Below.refl w.heap.size w).alloc (Nat.le_refl _) (.cells #[.int .i64 s, .int .i64 c, .int .i64 n] 54))
  go_enter Tryz.func32, Tryz.ntmps32
  go_wp2_with fail
  refine (HM.out _).mono ?_
  rintro e w' ⟨rfl, hb⟩
  rw [HE.out]
  have HB1 := Lib.hid (HB.out.trans (hb.mono HB.out.size))
  clear hb
  go_wp2
  go_ret2
  exact ⟨rfl, HB1.out⟩

theorem one_crc (w : World) {x : Nat} (h : x < 18446744073709551616) : Crc.Wds (w.alloc (.cells #[.int .u64 (x : Int)] 85)) (some ⟨w.heap.size, 0, none⟩) [x] :=
  ⟨fun y hy => by
    obtain rfl : y = x := by simpa using hy
    exact h, by simp, fun j hj => by
    have : j < 1 := hj
    match j, this with
    | 0, _ => exact ⟨w.heap.size, 0, rfl, by simp, Pack.alloc_cell _ _ _ _⟩⟩
theorem refBytes_one (w : World) {x : Nat} (h : x < 18446744073709551616) : Calls Tryz.prog 72 #[.slice (some ⟨w.heap.size, 0, none⟩) 1 1] (w.alloc (.cells #[.int .u64 (x : Int)] 85)) fun e w' => e = .returned (.string (Crc.str (Crc.wb x))) ∧ Below w.heap.size w w' := by
  refine (Crc.bytes_any _ 1 _ (one_crc w h) (by simp)).mono ?_
  rintro e w' ⟨rfl, hb⟩
  have hb0 := (Below.refl w.heap.size w).alloc (Nat.le_refl _) (.cells #[.int .u64 (x : Int)] 85)
  have e8 : Crc.wflat [x] = Crc.wb x := by simp [Crc.wflat]
  rw [e8]
  exact ⟨rfl, hb0.trans (hb.mono hb0.size)⟩
theorem tx_six (x : Nat) : Crc.tx ((Crc.str (Crc.wb x)).extract 0 6) = six x := by
  have h := Crc.tx_str (Crc.wb_byt x)
  unfold six
  rw [← h]
  unfold Crc.tx
  rw [ByteArray.data_extract, Array.toList_extract, List.extract_eq_take_drop, List.drop_zero, List.map_take]
  rw [show (Crc.str (List.map UInt8.toNat (Crc.str (Crc.wb x)).data.toList)) = Crc.str (Crc.wb x) by
    show Crc.str (Crc.tx (Crc.str (Crc.wb x))) = _
    rw [h]]
theorem refSum_six (w : World) (s c q : Nat) : Calls Tryz.prog 91 #[.string ((Crc.str (Crc.wb (nums s c q))).extract 0 6)] w fun e w' => e = .returned (.int .u16 (sum s c q : Nat)) ∧ w = w' := by
  have h := Crc.ref16_any w ((Crc.str (Crc.wb (nums s c q))).extract 0 6) (by
    rw [← Crc.tx_len, tx_six, six_len]
    omega)
  rw [tx_six] at h
  exact h
theorem str8 (x : Nat) : (Crc.str (Crc.wb x)).size = 8 := by rw [Crc.str_size, Crc.wb_len]

set_option maxHeartbeats 2000000 in
set_option maxRecDepth 100000 in
theorem refEncode_yes (w : World) (s c q : Nat) (n : Int) (hn : n = nx q) (hm : may s c (nx q) = true) :
    Calls Tryz.prog 32 #[.agg #[.int .i64 (s : Int), .int .i64 (c : Int), .int .i64 n]] w fun r w' => r = .returned (.tuple #[.int .u64 (wd s c q : Nat), .bool true]) ∧ Below w.heap.size w w' := by
  obtain ⟨h1, h2, h3, h4⟩ := may_lt hm
  have hs64 : s < 65536 := by omega
  have hc64 : c < 65536 := by omega
  have HM := Lib.hid (fun w => refMay_any w s c n)
  have HE := Lib.hid (show may s c n = true by rw [hn]; exact hm)
  have hnl := nums_lt hs64 hc64 h4
  have hsl := sum_lt s c q
  clear hm h1 h2 h3
  have HB := Lib.hid ((Below.refl w.heap.size w).alloc (Nat.le_refl _) (.cells #[.int .i64 (s : Int), .int .i64 (c : Int), .int .i64 n] 54))
  have HX := Lib.hid (boxed w s c n 54)
  by_cases hq : q = 65535
  · subst hq
    rw [nx_none] at hn
    subst hn
    go_enter Tryz.func32, Tryz.ntmps32
    go_wp2_with fail
    refine (HM.out _).mono ?_
    rintro e w1 ⟨rfl, hb⟩
    rw [HE.out]
    have HB1 := Lib.hid (HB.out.trans (hb.mono HB.out.size))
    have HX1 := Lib.hid (HX.out.keep hb)
    have hc0 := HX1.out.c0
    have hc1 := HX1.out.c1
    have hc2 := HX1.out.c2
    clear hb HX
    go_wp2_with fail
    rw [show ((s : Int) + 65536 * (c : Int) + 281470681743360) = ((nums s c 65535 : Nat) : Int) by unfold nums; omega]
    refine (refBytes_one _ (x := nums s c 65535) (by omega)).mono ?_
    rintro e w2 ⟨rfl, hb⟩
    have HB2 := Lib.hid (HB1.out.trans (hb.mono HB1.out.size))
    have h8 := str8 (nums s c 65535)
    have HR := Lib.hid (fun w => refSum_six w s c 65535)
    have HWD := Lib.hid (show ((wd s c 65535 : Nat) : Int) = ((nums s c 65535 : Nat) : Int) + 281474976710656 * ((sum s c 65535 : Nat) : Int) by unfold wd; omega)
    clear hb HB1 HX1 hc0 hc1 hc2
    generalize Crc.str (Crc.wb (nums s c 65535)) = T at *
    go_wp2_with fail
    refine (HR.out _).mono ?_
    rintro e w' ⟨rfl, rfl⟩
    go_wp2
    go_ret2
    exact ⟨by rw [HWD.out]; rfl, HB2.out⟩
  · rw [nx_some hq] at hn
    subst hn
    have hq0 : ¬ (q : Int) < 0 := by omega
    go_enter Tryz.func32, Tryz.ntmps32
    go_wp2_with fail
    refine (HM.out _).mono ?_
    rintro e w1 ⟨rfl, hb⟩
    rw [HE.out]
    have HB1 := Lib.hid (HB.out.trans (hb.mono HB.out.size))
    have HX1 := Lib.hid (HX.out.keep hb)
    have hc0 := HX1.out.c0
    have hc1 := HX1.out.c1
    have hc2 := HX1.out.c2
    clear hb HX
    go_wp2_with fail
    rw [show ((s : Int) + 65536 * (c : Int) + 4294967296 * (q : Int)) = ((nums s c q : Nat) : Int) by unfold nums; omega]
    refine (refBytes_one _ (x := nums s c q) (by omega)).mono ?_
    rintro e w2 ⟨rfl, hb⟩
    have HB2 := Lib.hid (HB1.out.trans (hb.mono HB1.out.size))
    have h8 := str8 (nums s c q)
    have HR := Lib.hid (fun w => refSum_six w s c q)
    have HWD := Lib.hid (show ((wd s c q : Nat) : Int) = ((nums s c q : Nat) : Int) + 281474976710656 * ((sum s c q : Nat) : Int) by unfold wd; omega)
    clear hb HB1 HX1 hc0 hc1 hc2
    generalize Crc.str (Crc.wb (nums s c q)) = T at *
    go_wp2_with fail
    refine (HR.out _).mono ?_
    rintro e w' ⟨rfl, rfl⟩
    go_wp2
    go_ret2
    exact ⟨by rw [HWD.out]; rfl, HB2.out⟩
end Slo
end Go.Proofs.YtcojgpjappjobaaGreatDoor
/- The document's decoding. -/
namespace Go.Proofs.YtcojgpjappjobaaGreatDoor
open Go.RowKit Go.MapKept
namespace Slo
open Lin

/-- the slot, and whether there is one -/
def rv (q : Option (Nat × Nat × Nat)) : Value := .tuple #[gv q, .bool q.isSome]

theorem own_under (w : World) (t : TypeId) (o : Obj) : Own ((w.alloc (.cells #[.int .i64 0, .int .i64 0, .int .i64 0] t)).alloc o) w.heap.size 0 0 0 :=
  (owned w 0 0 0 t).keep ((Below.refl _ (w.alloc (.cells #[.int .i64 0, .int .i64 0, .int .i64 0] t))).alloc (Nat.le_refl _) o)
theorem below_two (w : World) (o o' : Obj) : Below w.heap.size w ((w.alloc o).alloc o') := by
  have hb := (Below.refl w.heap.size w).alloc (Nat.le_refl _) o
  exact hb.alloc hb.size _

set_option maxHeartbeats 2000000 in
set_option maxRecDepth 100000 in
theorem refDecode_any (w : World) (x : Nat) (hx : x < 18446744073709551616) :
    Calls Tryz.prog 68 #[.int .u64 (x : Int)] w fun r w' => r = .returned (rv (dec x)) ∧ Below w.heap.size w w' := by
  obtain ⟨s, hs⟩ : ∃ s, s = x % 65536 := ⟨_, rfl⟩
  obtain ⟨c, hc⟩ : ∃ c, c = x / 65536 % 65536 := ⟨_, rfl⟩
  obtain ⟨q, hq⟩ : ∃ q, q = x / 4294967296 % 65536 := ⟨_, rfl⟩
  have hs1 : s < 65536 := by omega
  have hc1 : c < 65536 := by omega
  have hq1 : q < 65536 := by omega
  have HD := Lib.hid (show dec x = if may s c (nx q) = true ∧ x = wd s c q then some (s, c, q) else none by
    unfold dec
    simp only [← hs, ← hc, ← hq])
  have HXS := Lib.hid (show (x : Int) % 65536 = (s : Int) by omega)
  have HXC := Lib.hid (show (x : Int) / 65536 % 65536 = (c : Int) by omega)
  have HXQ := Lib.hid (show (x : Int) / 4294967296 % 65536 = (q : Int) by omega)
  clear hs hc hq
  by_cases hq : q = 65535
  · subst hq
    have hbe : ((x : Int) / 4294967296 % 65536 == 65535) = true := by rw [HXQ.out]; rfl
    go_enter Tryz.func68, Tryz.ntmps68
    go_wp2_with fail
    rw [HXS.out, HXC.out]
    have HX2 := Lib.hid (own_under w 54 (.cells #[.int .i64 (s : Int), .int .i64 (c : Int), .int .i64 (-1)] 54))
    have HG2 := Lib.hid (boxed_at (w := w.alloc (.cells #[.int .i64 0, .int .i64 0, .int .i64 0] 54)) (World.size_alloc _ _) s c (-1) 54)
    have HB2 := Lib.hid (below_two w (.cells #[.int .i64 0, .int .i64 0, .int .i64 0] 54) (.cells #[.int .i64 (s : Int), .int .i64 (c : Int), .int .i64 (-1)] 54))
    clear HXS HXC HXQ hbe
    generalize (w.alloc (.cells #[.int .i64 0, .int .i64 0, .int .i64 0] 54)).alloc (.cells #[.int .i64 (s : Int), .int .i64 (c : Int), .int .i64 (-1)] 54) = w2 at *
    cases hmay : may s c (nx 65535) with
    | false =>
      have HNO := Lib.hid (show dec x = none by rw [HD.out, if_neg (fun h => by rw [hmay] at h; simp at h)])
      refine (refEncode_no _ s c (-1) (by rw [← nx_none]; exact hmay)).mono ?_
      rintro e w3 ⟨rfl, hb3⟩
      have HX3 := Lib.hid (HX2.out.keep hb3)
      have HB3 := Lib.hid (HB2.out.trans (hb3.mono HB2.out.size))
      have hc0 := HX3.out.box.c0
      have hc1 := HX3.out.box.c1
      have hc2 := HX3.out.box.c2
      have hf0 := HX3.out.f 0
      have hf1 := HX3.out.f 1
      have hf2 := HX3.out.f 2
      clear hb3 hmay HX2 HB2 HD HG2
      go_wp2
      rw [HNO.out]
      refine bodyPost_ret (v := rv none) ?_ rfl ⟨rfl, ?_⟩
      · simp [results, Tryz.results68, go_sem, rv, gv, hc0, hc1, hc2]
      · exact ((HB3.out.setCell (Nat.le_refl _) _).setCell (Nat.le_refl _) _).setCell (Nat.le_refl _) _
    | true =>
      refine (refEncode_yes _ s c 65535 (-1) (nx_none).symm hmay).mono ?_
      rintro e w3 ⟨rfl, hb3⟩
      have HX3 := Lib.hid (HX2.out.keep hb3)
      have HG3 := Lib.hid (HG2.out.keep hb3)
      have HB3 := Lib.hid (HB2.out.trans (hb3.mono HB2.out.size))
      have hc0 := HX3.out.box.c0
      have hc1 := HX3.out.box.c1
      have hc2 := HX3.out.box.c2
      have hf0 := HX3.out.f 0
      have hf1 := HX3.out.f 1
      have hf2 := HX3.out.f 2
      have hg0 := HG3.out.c0
      have hg1 := HG3.out.c1
      have hg2 := HG3.out.c2
      have HM := Lib.hid hmay
      clear hb3 hmay HX2 HB2 HG2
      by_cases hls : x = wd s c 65535
      · have HNO := Lib.hid (show dec x = some (s, c, 65535) by rw [HD.out, if_pos ⟨HM.out, hls⟩])
        have hbe : (((wd s c 65535 : Nat) : Int) != ((x : Nat) : Int)) = false := by rw [← hls]; simp
        clear hls HD HM
        go_wp2
        rw [HNO.out]
        refine bodyPost_ret (v := rv (some (s, c, 65535))) ?_ rfl ⟨rfl, ?_⟩
        · simp [results, Tryz.results68, go_sem, rv, gv, hc0, hc1, hc2, nx_none]
        · exact ((HB3.out.setCell (Nat.le_refl _) _).setCell (Nat.le_refl _) _).setCell (Nat.le_refl _) _
      · have HNO := Lib.hid (show dec x = none by rw [HD.out, if_neg (fun h => hls h.2)])
        have hbe : (((wd s c 65535 : Nat) : Int) != ((x : Nat) : Int)) = true := by simp; omega
        clear hls HD HM
        go_wp2
        rw [HNO.out]
        refine bodyPost_ret (v := rv none) ?_ rfl ⟨rfl, ?_⟩
        · simp [results, Tryz.results68, go_sem, rv, gv, hc0, hc1, hc2]
        · exact ((HB3.out.setCell (Nat.le_refl _) _).setCell (Nat.le_refl _) _).setCell (Nat.le_refl _) _
  · have hbe : ((x : Int) / 4294967296 % 65536 == 65535) = false := by rw [HXQ.out]; simp; omega
    have HNX := Lib.hid (nx_some hq)
    clear hq
    go_enter Tryz.func68, Tryz.ntmps68
    go_wp2_with fail
    rw [HXS.out, HXC.out, HXQ.out]
    have HX2 := Lib.hid (own_under w 54 (.cells #[.int .i64 (s : Int), .int .i64 (c : Int), .int .i64 (q : Int)] 54))
    have HG2 := Lib.hid (boxed_at (w := w.alloc (.cells #[.int .i64 0, .int .i64 0, .int .i64 0] 54)) (World.size_alloc _ _) s c (q : Int) 54)
    have HB2 := Lib.hid (below_two w (.cells #[.int .i64 0, .int .i64 0, .int .i64 0] 54) (.cells #[.int .i64 (s : Int), .int .i64 (c : Int), .int .i64 (q : Int)] 54))
    clear HXS HXC HXQ hbe
    generalize (w.alloc (.cells #[.int .i64 0, .int .i64 0, .int .i64 0] 54)).alloc (.cells #[.int .i64 (s : Int), .int .i64 (c : Int), .int .i64 (q : Int)] 54) = w2 at *
    cases hmay : may s c (nx q) with
    | false =>
      have HNO := Lib.hid (show dec x = none by rw [HD.out, if_neg (fun h => by rw [hmay] at h; simp at h)])
      refine (refEncode_no _ s c (q : Int) (by rw [← HNX.out]; exact hmay)).mono ?_
      rintro e w3 ⟨rfl, hb3⟩
      have HX3 := Lib.hid (HX2.out.keep hb3)
      have HB3 := Lib.hid (HB2.out.trans (hb3.mono HB2.out.size))
      have hc0 := HX3.out.box.c0
      have hc1 := HX3.out.box.c1
      have hc2 := HX3.out.box.c2
      have hf0 := HX3.out.f 0
      have hf1 := HX3.out.f 1
      have hf2 := HX3.out.f 2
      clear hb3 hmay HX2 HB2 HD HG2
      go_wp2
      rw [HNO.out]
      refine bodyPost_ret (v := rv none) ?_ rfl ⟨rfl, ?_⟩
      · simp [results, Tryz.results68, go_sem, rv, gv, hc0, hc1, hc2]
      · exact ((HB3.out.setCell (Nat.le_refl _) _).setCell (Nat.le_refl _) _).setCell (Nat.le_refl _) _
    | true =>
      refine (refEncode_yes _ s c q (q : Int) (HNX.out).symm hmay).mono ?_
      rintro e w3 ⟨rfl, hb3⟩
      have HX3 := Lib.hid (HX2.out.keep hb3)
      have HG3 := Lib.hid (HG2.out.keep hb3)
      have HB3 := Lib.hid (HB2.out.trans (hb3.mono HB2.out.size))
      have hc0 := HX3.out.box.c0
      have hc1 := HX3.out.box.c1
      have hc2 := HX3.out.box.c2
      have hf0 := HX3.out.f 0
      have hf1 := HX3.out.f 1
      have hf2 := HX3.out.f 2
      have hg0 := HG3.out.c0
      have hg1 := HG3.out.c1
      have hg2 := HG3.out.c2
      have HM := Lib.hid hmay
      clear hb3 hmay HX2 HB2 HG2
      by_cases hls : x = wd s c q
      · have HNO := Lib.hid (show dec x = some (s, c, q) by rw [HD.out, if_pos ⟨HM.out, hls⟩])
        have hbe : (((wd s c q : Nat) : Int) != ((x : Nat) : Int)) = false := by rw [← hls]; simp
        clear hls HD HM
        go_wp2
        rw [HNO.out]
        refine bodyPost_ret (v := rv (some (s, c, q))) ?_ rfl ⟨rfl, ?_⟩
        · simp [results, Tryz.results68, go_sem, rv, gv, hc0, hc1, hc2, HNX.out]
        · exact ((HB3.out.setCell (Nat.le_refl _) _).setCell (Nat.le_refl _) _).setCell (Nat.le_refl _) _
      · have HNO := Lib.hid (show dec x = none by rw [HD.out, if_neg (fun h => hls h.2)])
        have hbe : (((wd s c q : Nat) : Int) != ((x : Nat) : Int)) = true := by simp; omega
        clear hls HD HM
        go_wp2
        rw [HNO.out]
        refine bodyPost_ret (v := rv none) ?_ rfl ⟨rfl, ?_⟩
        · simp [results, Tryz.results68, go_sem, rv, gv, hc0, hc1, hc2]
        · exact ((HB3.out.setCell (Nat.le_refl _) _).setCell (Nat.le_refl _) _).setCell (Nat.le_refl _) _
end Slo
end Go.Proofs.YtcojgpjappjobaaGreatDoor
/- The chapter's example; SlotEncodes, walked. -/
namespace Go.Proofs.YtcojgpjappjobaaGreatDoor
open Go.RowKit Go.MapKept
namespace Slo
open Lin

theorem may_ex : may ((1 : Nat) : Int) ((2 : Nat) : Int) (nx 3) = true := by decide
theorem and_ex : bits .and .u64 ((wd 1 2 3 : Nat) : Int) 281474976710655 = 12885032961 := by decide +kernel

set_option maxHeartbeats 1000000 in
theorem lives_any (w : World) : Calls Tryz.prog 54 #[] w fun r w' => r = .returned (.bool true) ∧ Below w.heap.size w w' := by
  have he : Calls Tryz.prog 92 #[.agg #[.int .i64 1, .int .i64 2, .int .i64 3]] w fun r w' => r = .returned (.tuple #[.int .u64 (wd 1 2 3 : Nat), .int .i64 0]) ∧ Below w.heap.size w w' := encode_yes w 1 2 3 3 (by decide) may_ex
  have HE := Lib.hid he
  have H2 := Lib.hid Crc.lives_any
  have H3 := Lib.hid Pack.lives_any
  have hx := and_ex
  generalize wd 1 2 3 = x at *
  clear he
  go_enter Tryz.func54, Tryz.ntmps54
  go_wp2_with fail
  refine HE.out.mono ?_
  rintro e w0 ⟨rfl, hb⟩
  have HB1 := Lib.hid hb
  clear hb HE
  go_wp2_with fail
  refine (H2.out _).mono ?_
  rintro e w2 ⟨rfl, hb⟩
  have HB2 := Lib.hid (HB1.out.trans (hb.mono HB1.out.size))
  clear hb HB1
  go_wp2_with fail
  refine (H3.out _).mono ?_
  rintro e w3 ⟨rfl, hb⟩
  have HB3 := Lib.hid (HB2.out.trans (hb.mono HB2.out.size))
  clear hb HB2
  go_wp2
  go_ret
  exact ⟨rfl, HB3.out⟩

end Slo
end Go.Proofs.YtcojgpjappjobaaGreatDoor
/- Memory of four ints: in a block, of the call's own, beside a row of words; four fields, four widths. -/
namespace Go.Proofs.YtcojgpjappjobaaGreatDoor
open Go.RowKit Go.MapKept
namespace Lin

/-- four ints lie in block b -/
structure Box4 (w : World) (b : Nat) (n m s r : Int) : Prop where
  lt : b < w.heap.size
  c0 : w.cell? ⟨b, 0, none⟩ = some (.int .i64 n)
  c1 : w.cell? ⟨b, 1, none⟩ = some (.int .i64 m)
  c2 : w.cell? ⟨b, 2, none⟩ = some (.int .i64 s)
  c3 : w.cell? ⟨b, 3, none⟩ = some (.int .i64 r)
theorem Box4.keep {w w' : World} {b : Nat} {n m s r : Int} (h : Box4 w b n m s r) (hb : Below w.heap.size w w') : Box4 w' b n m s r :=
  ⟨Nat.lt_of_lt_of_le h.lt hb.size, (hb.cell (p := ⟨b, 0, none⟩) h.lt).trans h.c0, (hb.cell (p := ⟨b, 1, none⟩) h.lt).trans h.c1, (hb.cell (p := ⟨b, 2, none⟩) h.lt).trans h.c2, (hb.cell (p := ⟨b, 3, none⟩) h.lt).trans h.c3⟩
theorem Box4.drew {w : World} {b : Nat} {n m s r : Int} (h : Box4 w b n m s r) : Box4 w.drew b n m s r := ⟨h.lt, h.c0, h.c1, h.c2, h.c3⟩
theorem Box4.drewN {w : World} {b : Nat} {n m s r : Int} (h : Box4 w b n m s r) (k : Nat) : Box4 (w.drewN k) b n m s r := ⟨h.lt, h.c0, h.c1, h.c2, h.c3⟩
theorem boxed4 (w : World) (n m s r : Int) (t : TypeId) : Box4 (w.alloc (.cells #[.int .i64 n, .int .i64 m, .int .i64 s, .int .i64 r] t)) w.heap.size n m s r :=
  ⟨by simp, World.cell?_alloc_mark w _ t _ 0, World.cell?_alloc_mark w _ t _ 1, World.cell?_alloc_mark w _ t _ 2, World.cell?_alloc_mark w _ t _ 3⟩
theorem boxed4_at {w : World} {k : Nat} (hk : w.heap.size = k) (n m s r : Int) (t : TypeId) : Box4 (w.alloc (.cells #[.int .i64 n, .int .i64 m, .int .i64 s, .int .i64 r] t)) k n m s r := by
  subst hk
  exact boxed4 w n m s r t

/-- four ints of the call's own in block b -/
structure Own4 (w : World) (b : Nat) (n m s r : Int) : Prop where
  box : Box4 w b n m s r
  f : ∀ o, w.frozen? ⟨b, o, none⟩ = false
theorem Own4.keep {w w' : World} {b : Nat} {n m s r : Int} (h : Own4 w b n m s r) (hb : Below w.heap.size w w') : Own4 w' b n m s r :=
  ⟨h.box.keep hb, fun o => (hb.frozen (p := ⟨b, o, none⟩) h.box.lt).trans (h.f o)⟩
theorem Own4.drew {w : World} {b : Nat} {n m s r : Int} (h : Own4 w b n m s r) : Own4 w.drew b n m s r := ⟨h.box.drew, h.f⟩
theorem Own4.drewN {w : World} {b : Nat} {n m s r : Int} (h : Own4 w b n m s r) (k : Nat) : Own4 (w.drewN k) b n m s r := ⟨h.box.drewN k, h.f⟩
theorem owned4 (w : World) (n m s r : Int) (t : TypeId) : Own4 (w.alloc (.cells #[.int .i64 n, .int .i64 m, .int .i64 s, .int .i64 r] t)) w.heap.size n m s r :=
  ⟨boxed4 w n m s r t, fun o => (World.rowIs_alloc w #[.int .i64 n, .int .i64 m, .int .i64 s, .int .i64 r] t (fun i => if i = 0 then .int .i64 n else if i = 1 then .int .i64 m else if i = 2 then .int .i64 s else .int .i64 r) (fun i hi => by
    have : i < 4 := hi
    match i, this with
    | 0, _ => rfl
    | 1, _ => rfl
    | 2, _ => rfl
    | 3, _ => rfl)).frozen o⟩

/-- four ints in block b, the words in block g; what was there ahead of N is as it was -/
structure En4 (w0 : World) (N b g : Nat) (n m s r : Int) (l : List Nat) (w : World) : Prop where
  box : Box4 w b n m s r
  row : w.rowIs g 85 8 (rowOf l)
  bg : b ≠ g
  below : Below N w0 w
  nN : N ≤ g
theorem En4.keep {w0 w w' : World} {N b g : Nat} {n m s r : Int} {l : List Nat} (h : En4 w0 N b g n m s r l w) (hb : Below w.heap.size w w') (hN : N ≤ w.heap.size) : En4 w0 N b g n m s r l w' :=
  ⟨h.box.keep hb, h.row.of_block (hb.block _ h.row.lt), h.bg, h.below.trans (hb.mono hN), h.nN⟩
theorem En4.drew {w0 w : World} {N b g : Nat} {n m s r : Int} {l : List Nat} (h : En4 w0 N b g n m s r l w) : En4 w0 N b g n m s r l w.drew :=
  ⟨h.box.drew, h.row.drew, h.bg, h.below.drew, h.nN⟩
theorem En4.set {w0 w : World} {N b g : Nat} {n m s r : Int} {l l' : List Nat} (h : En4 w0 N b g n m s r l w) (i x : Nat) (e : ∀ j, j < 8 → (if j = i then x else l[j]?.getD 0) = l'[j]?.getD 0) : En4 w0 N b g n m s r l' (w.setCell ⟨g, i, none⟩ (.int .u64 (x : Int))) :=
  ⟨⟨by simpa using h.box.lt, (cell_set_other h.bg _).trans h.box.c0, (cell_set_other h.bg _).trans h.box.c1, (cell_set_other h.bg _).trans h.box.c2, (cell_set_other h.bg _).trans h.box.c3⟩,
   (h.row.set i (.int .u64 (x : Int))).congr (fun j hj => by
    have := e j hj
    unfold rowOf
    rw [← this]
    split <;> rfl), h.bg, h.below.setCell h.nN _, h.nN⟩

theorem fds_four (w : World) {n m s r : Nat} (hn : n < 65536) (hm : m < 65536) (hs : s < 65536) (hr : r < 65536) : Pack.Fds (w.alloc (.cells #[.int .i64 16, .int .u64 (n : Int), .int .i64 16, .int .u64 (m : Int), .int .i64 16, .int .u64 (s : Int), .int .i64 16, .int .u64 (r : Int)] 178)) (some ⟨w.heap.size, 0, none⟩) [⟨16, n⟩, ⟨16, m⟩, ⟨16, s⟩, ⟨16, r⟩] :=
  ⟨fun f hf => by
    simp only [List.mem_cons, List.not_mem_nil, or_false] at hf
    rcases hf with rfl | rfl | rfl | rfl <;> exact ⟨by simp only; omega, by simp only; omega, by simp only; omega⟩, by simp, fun j hj => by
    have : j < 4 := hj
    match j, this with
    | 0, _ => exact ⟨w.heap.size, 0, rfl, by simp, Pack.alloc_cell _ _ _ _, Pack.alloc_cell _ _ _ _⟩
    | 1, _ => exact ⟨w.heap.size, 0, rfl, by simp, Pack.alloc_cell _ _ _ _, Pack.alloc_cell _ _ _ _⟩
    | 2, _ => exact ⟨w.heap.size, 0, rfl, by simp, Pack.alloc_cell _ _ _ _, Pack.alloc_cell _ _ _ _⟩
    | 3, _ => exact ⟨w.heap.size, 0, rfl, by simp, Pack.alloc_cell _ _ _ _, Pack.alloc_cell _ _ _ _⟩⟩

theorem nts_four (w : World) : Pack.Nts (w.alloc (.cells #[.int .i64 16, .int .i64 16, .int .i64 16, .int .i64 16] 3)) (some ⟨w.heap.size, 0, none⟩) [16, 16, 16, 16] :=
  ⟨fun f hf => by
    obtain rfl : f = 16 := by simpa using hf
    exact ⟨by decide, by decide⟩, by decide, fun j hj => by
    have : j < 4 := hj
    match j, this with
    | 0, _ => exact ⟨w.heap.size, 0, rfl, by simp, Pack.alloc_cell _ _ _ _⟩
    | 1, _ => exact ⟨w.heap.size, 0, rfl, by simp, Pack.alloc_cell _ _ _ _⟩
    | 2, _ => exact ⟨w.heap.size, 0, rfl, by simp, Pack.alloc_cell _ _ _ _⟩
    | 3, _ => exact ⟨w.heap.size, 0, rfl, by simp, Pack.alloc_cell _ _ _ _⟩⟩
end Lin
end Go.Proofs.YtcojgpjappjobaaGreatDoor
/- A record's line as a list of words, whether a record may be, and whose a list is. -/
namespace Go.Proofs.YtcojgpjappjobaaGreatDoor
open Go.RowKit Go.MapKept
namespace Rec
open Lin

/-- it may be -/
def May (s f t c : Int) : Prop := (0 ≤ s ∧ s ≤ 65533) ∧ (0 ≤ f ∧ f ≤ 65533) ∧ (0 ≤ t ∧ t ≤ 65533) ∧ (1 ≤ c ∧ c ≤ 65534)
instance (s f t c : Int) : Decidable (May s f t c) := by unfold May; infer_instance
def may (s f t c : Int) : Bool := decide (May s f t c)

/-- the first word -/
def nums (s f t : Nat) : Nat := 1 + 65536 * s + 4294967296 * f + 281474976710656 * t
/-- the words ahead of the sum -/
def front (s f t c : Nat) : List Nat := [nums s f t, c, 0, 0, 0, 0, 0]
/-- their sum -/
def sum (s f t c : Nat) : Nat := Crc.S32 (Crc.wflat (front s f t c))
/-- the empty line -/
def zero : List Nat := [0, 0, 0, 0, 0, 0, 0, 0]
/-- a record's line -/
def ln (s f t c : Nat) : List Nat := [nums s f t, c, 0, 0, 0, 0, 0, sum s f t c]

theorem ln_len (s f t c : Nat) : (ln s f t c).length = 8 := rfl
theorem front_len (s f t c : Nat) : (front s f t c).length = 7 := rfl

theorem nums_lt {s f t : Nat} (hs : s < 65536) (hf : f < 65536) (ht : t < 65536) : nums s f t < 18446744073709551616 := by unfold nums; omega
theorem sum_lt (s f t c : Nat) : sum s f t c < 4294967296 := s32_lt _
theorem nums_pos (s f t : Nat) : nums s f t ≠ 0 := by unfold nums; omega
theorem nums_get {s f t : Nat} (hs : s < 65536) (hf : f < 65536) (_ht : t < 65536) : nums s f t / 65536 % 65536 = s ∧ nums s f t / 4294967296 % 65536 = f ∧ nums s f t / 281474976710656 = t := by
  unfold nums
  omega

theorem front_u64 {s f t c : Nat} (hs : s < 65536) (hf : f < 65536) (ht : t < 65536) (hc : c < 18446744073709551616) : ∀ x ∈ front s f t c, x < 18446744073709551616 := by
  intro x hx
  have h1 := nums_lt hs hf ht
  simp only [front, List.mem_cons, List.not_mem_nil, or_false] at hx
  rcases hx with rfl | rfl | rfl | rfl | rfl | rfl | rfl <;> omega
theorem full_u64 {s f t c : Nat} (hs : s < 65536) (hf : f < 65536) (ht : t < 65536) (hc : c < 18446744073709551616) : ∀ x ∈ ln s f t c, x < 18446744073709551616 := by
  intro x hx
  have h1 := nums_lt hs hf ht
  have h2 := sum_lt s f t c
  simp only [ln, List.mem_cons, List.not_mem_nil, or_false] at hx
  rcases hx with rfl | rfl | rfl | rfl | rfl | rfl | rfl | rfl <;> omega
theorem zero_u64 : ∀ x ∈ zero, x < 18446744073709551616 := by decide

/-- the numbers' bounds -/
theorem may_lt {s f t c : Nat} (h : may s f t c = true) : s ≤ 65533 ∧ f ≤ 65533 ∧ t ≤ 65533 ∧ 1 ≤ c ∧ c ≤ 65534 := by
  have h := of_decide_eq_true h
  unfold May at h
  omega
theorem may_nat {s f t c : Int} (e : may s f t c = true) : ∃ s' f' t' c' : Nat, s = (s' : Int) ∧ f = (f' : Int) ∧ t = (t' : Int) ∧ c = (c' : Int) := by
  have e := of_decide_eq_true e
  unfold May at e
  obtain ⟨s, rfl⟩ := Int.eq_ofNat_of_zero_le (show 0 ≤ s by omega)
  obtain ⟨f, rfl⟩ := Int.eq_ofNat_of_zero_le (show 0 ≤ f by omega)
  obtain ⟨t, rfl⟩ := Int.eq_ofNat_of_zero_le (show 0 ≤ t by omega)
  obtain ⟨c, rfl⟩ := Int.eq_ofNat_of_zero_le (show 0 ≤ c by omega)
  exact ⟨s, f, t, c, rfl, rfl, rfl, rfl⟩

theorem ln_u64 {s f t c : Nat} (h : may s f t c = true) : ∀ x ∈ ln s f t c, x < 18446744073709551616 := by
  obtain ⟨h1, h2, h3, h4, h5⟩ := may_lt h
  exact full_u64 (by omega) (by omega) (by omega) (by omega)

theorem ln_zero (s f t c : Nat) : ln s f t c ≠ zero := by
  intro h
  unfold ln zero at h
  injection h with h _
  exact nums_pos s f t h

theorem pk_nums {s f t : Nat} (hs : s < 65536) (hf : f < 65536) (ht : t < 65536) : Pack.pk 0 0 [⟨16, 1⟩, ⟨16, s⟩, ⟨16, f⟩, ⟨16, t⟩] = some (nums s f t, 64) := by
  unfold nums
  simp [Pack.pk, hs, hf, ht]
  omega

theorem split_nums {x : Nat} (hx : x < 18446744073709551616) : Pack.split x [16, 16, 16, 16] = some [x % 65536, x / 65536 % 65536, x / 4294967296 % 65536, x / 281474976710656] := by
  have h : Pack.tot 0 [16, 16, 16, 16] = some 64 := by decide
  unfold Pack.split
  rw [h]
  have e : (2 : Nat) ^ 64 = 18446744073709551616 := rfl
  have : x / 18446744073709551616 = 0 := by omega
  simp only [e, this]
  simp [Pack.sp, Nat.div_div_eq_div_mul]
  omega

/-- whose it is -/
def dec (l : List Nat) : Option (Nat × Nat × Nat × Nat) :=
  let x : Nat := l[0]?.getD 0
  let c : Nat := l[1]?.getD 0
  let s : Nat := x / 65536 % 65536
  let f : Nat := x / 4294967296 % 65536
  let t : Nat := x / 281474976710656
  if l.length = 8 ∧ may s f t c = true ∧ l = ln s f t c then some (s, f, t, c) else none

theorem dec_ln {s f t c : Nat} (h : may s f t c = true) : dec (ln s f t c) = some (s, f, t, c) := by
  obtain ⟨h1, h2, h3, h4, h5⟩ := may_lt h
  obtain ⟨e1, e2, e3⟩ := nums_get (s := s) (f := f) (t := t) (by omega) (by omega) (by omega)
  have e : (ln s f t c)[0]?.getD 0 = nums s f t := rfl
  have e' : (ln s f t c)[1]?.getD 0 = c := rfl
  unfold dec
  simp only [e, e', e1, e2, e3]
  exact if_pos ⟨ln_len s f t c, h, trivial⟩

theorem dec_some {l : List Nat} {s f t c : Nat} (h : dec l = some (s, f, t, c)) : may s f t c = true ∧ l = ln s f t c := by
  unfold dec at h
  simp only at h
  split at h
  · rename_i hc
    injection h with h
    injection h with h1 h2
    injection h2 with h2 h3
    injection h3 with h3 h4
    subst h1 h2 h3 h4
    exact hc.2
  · cases h

/-- what is no line of one that may be -/
theorem dec_none {l : List Nat} (h : ∀ s f t c : Nat, may s f t c = true → l ≠ ln s f t c) : dec l = none := by
  cases e : dec l with
  | none => rfl
  | some q =>
    obtain ⟨s, f, t, c⟩ := q
    have := dec_some e
    exact absurd this.2 (h s f t c this.1)
theorem dec_zero : dec zero = none := dec_none (fun s f t c _ e => ln_zero s f t c e.symm)

/-- what a line is: 0 empty, 1 full, 2 torn -/
def st (l : List Nat) : Int := if l = zero then 0 else if (dec l).isSome = true then 1 else 2
theorem st_zero : st zero = 0 := if_pos rfl
theorem st_some {l : List Nat} {q : Nat × Nat × Nat × Nat} (h : dec l = some q) : st l = 1 := by
  unfold st
  have h0 : l ≠ zero := by
    intro e
    rw [e, dec_zero] at h
    cases h
  rw [if_neg h0, h]
  rfl
theorem st_none {l : List Nat} (h0 : l ≠ zero) (h : dec l = none) : st l = 2 := by
  unfold st
  rw [if_neg h0, h]
  rfl
end Rec
end Go.Proofs.YtcojgpjappjobaaGreatDoor
/- within, isBlock, May, isEmpty, walked; the document's May. -/
namespace Go.Proofs.YtcojgpjappjobaaGreatDoor
open Go.RowKit Go.MapKept
namespace Rec
open Lin

theorem within_any (w : World) (n a b : Int) :
    Calls Tryz.prog 170 #[.int .i64 n, .int .i64 a, .int .i64 b] w fun e w' => e = .returned (.bool (decide (a ≤ n ∧ n ≤ b))) ∧ w = w' := by
  go_enter Tryz.func170, Tryz.ntmps170
  go_wp2
  · rename_i h
    go_ret
    exact ⟨by simp [h], rfl⟩
  · rename_i h
    go_ret
    refine ⟨?_, rfl⟩
    have : ¬ a ≤ n := by omega
    simp [this]

theorem block_any (w : World) (n : Int) :
    Calls Tryz.prog 169 #[.int .i64 n] w fun e w' => e = .returned (.bool (decide (0 ≤ n ∧ n ≤ 65533))) ∧ w = w' := by
  have HW := Lib.hid (fun w => within_any w n 0 65533)
  generalize decide (0 ≤ n ∧ n ≤ 65533) = b at *
  go_enter Tryz.func169, Tryz.ntmps169
  go_wp2_with fail
  refine (HW.out _).mono ?_
  rintro e w' ⟨rfl, rfl⟩
  go_wp2
  go_ret
  exact ⟨rfl, rfl⟩

set_option maxHeartbeats 1000000 in
theorem may_any (w : World) (s f t c : Int) :
    Calls Tryz.prog 137 #[.agg #[.int .i64 s, .int .i64 f, .int .i64 t, .int .i64 c]] w fun r w' => r = .returned (.bool (may s f t c)) ∧ Below w.heap.size w w' := by
  have HB := Lib.hid ((Below.refl w.heap.size w).alloc (Nat.le_refl _) (.cells #[.int .i64 s, .int .i64 f, .int .i64 t, .int .i64 c] 70))
  have HS := Lib.hid (fun w => block_any w s)
  have HF := Lib.hid (fun w => block_any w f)
  have HT := Lib.hid (fun w => block_any w t)
  have HC := Lib.hid (fun w => within_any w c 1 65534)
  by_cases h0 : 0 ≤ s ∧ s ≤ 65533
  · skip
    by_cases h1 : 0 ≤ f ∧ f ≤ 65533
    · skip
      by_cases h2 : 0 ≤ t ∧ t ≤ 65533
      · skip
        by_cases h3 : 1 ≤ c ∧ c ≤ 65534
        · have HE := Lib.hid (show may s f t c = true by unfold may May; exact decide_eq_true ⟨h0, h1, h2, h3⟩)
          have E0 := Lib.hid (decide_eq_true h0)
          have E1 := Lib.hid (decide_eq_true h1)
          have E2 := Lib.hid (decide_eq_true h2)
          have E3 := Lib.hid (decide_eq_true h3)
          clear h0 h1 h2 h3
          go_enter Tryz.func137, Tryz.ntmps137
          go_wp2_with fail
          refine (HS.out _).mono ?_
          rintro e w' ⟨rfl, rfl⟩
          rw [E0.out]
          go_wp2_with fail
          refine (HF.out _).mono ?_
          rintro e w' ⟨rfl, rfl⟩
          rw [E1.out]
          go_wp2_with fail
          refine (HT.out _).mono ?_
          rintro e w' ⟨rfl, rfl⟩
          rw [E2.out]
          go_wp2_with fail
          refine (HC.out _).mono ?_
          rintro e w' ⟨rfl, rfl⟩
          rw [E3.out]
          go_wp2
          go_ret
          exact ⟨by rw [HE.out]; rfl, HB.out⟩
        · have HE := Lib.hid (show may s f t c = false by unfold may May; exact decide_eq_false (fun h => h3 h.2.2.2))
          have E0 := Lib.hid (decide_eq_true h0)
          have E1 := Lib.hid (decide_eq_true h1)
          have E2 := Lib.hid (decide_eq_true h2)
          have E3 := Lib.hid (decide_eq_false h3)
          clear h0 h1 h2 h3
          go_enter Tryz.func137, Tryz.ntmps137
          go_wp2_with fail
          refine (HS.out _).mono ?_
          rintro e w' ⟨rfl, rfl⟩
          rw [E0.out]
          go_wp2_with fail
          refine (HF.out _).mono ?_
          rintro e w' ⟨rfl, rfl⟩
          rw [E1.out]
          go_wp2_with fail
          refine (HT.out _).mono ?_
          rintro e w' ⟨rfl, rfl⟩
          rw [E2.out]
          go_wp2_with fail
          refine (HC.out _).mono ?_
          rintro e w' ⟨rfl, rfl⟩
          rw [E3.out]
          go_wp2
          go_ret
          exact ⟨by rw [HE.out]; rfl, HB.out⟩
      · have HE := Lib.hid (show may s f t c = false by unfold may May; exact decide_eq_false (fun h => h2 h.2.2.1))
        have E0 := Lib.hid (decide_eq_true h0)
        have E1 := Lib.hid (decide_eq_true h1)
        have E2 := Lib.hid (decide_eq_false h2)
        clear h0 h1 h2
        go_enter Tryz.func137, Tryz.ntmps137
        go_wp2_with fail
        refine (HS.out _).mono ?_
        rintro e w' ⟨rfl, rfl⟩
        rw [E0.out]
        go_wp2_with fail
        refine (HF.out _).mono ?_
        rintro e w' ⟨rfl, rfl⟩
        rw [E1.out]
        go_wp2_with fail
        refine (HT.out _).mono ?_
        rintro e w' ⟨rfl, rfl⟩
        rw [E2.out]
        go_wp2
        go_ret
        exact ⟨by rw [HE.out]; rfl, HB.out⟩
    · have HE := Lib.hid (show may s f t c = false by unfold may May; exact decide_eq_false (fun h => h1 h.2.1))
      have E0 := Lib.hid (decide_eq_true h0)
      have E1 := Lib.hid (decide_eq_false h1)
      clear h0 h1
      go_enter Tryz.func137, Tryz.ntmps137
      go_wp2_with fail
      refine (HS.out _).mono ?_
      rintro e w' ⟨rfl, rfl⟩
      rw [E0.out]
      go_wp2_with fail
      refine (HF.out _).mono ?_
      rintro e w' ⟨rfl, rfl⟩
      rw [E1.out]
      go_wp2
      go_ret
      exact ⟨by rw [HE.out]; rfl, HB.out⟩
  · have HE := Lib.hid (show may s f t c = false by unfold may May; exact decide_eq_false (fun h => h0 h.1))
    have E0 := Lib.hid (decide_eq_false h0)
    clear h0
    go_enter Tryz.func137, Tryz.ntmps137
    go_wp2_with fail
    refine (HS.out _).mono ?_
    rintro e w' ⟨rfl, rfl⟩
    rw [E0.out]
    go_wp2
    go_ret
    exact ⟨by rw [HE.out]; rfl, HB.out⟩

theorem may_iff {s f t c : Int} : may s f t c = true ↔ May s f t c := decide_eq_true_iff
theorem ret_bool {a b : Bool} (h : a = true ↔ b = true) : Ending.returned (Value.bool a) = Ending.returned (Value.bool b) := by rw [Bool.eq_iff_iff.2 h]

set_option maxHeartbeats 1000000 in
theorem refMay_any (w : World) (s f t c : Int) :
    Calls Tryz.prog 47 #[.agg #[.int .i64 s, .int .i64 f, .int .i64 t, .int .i64 c]] w fun r w' => r = .returned (.bool (may s f t c)) ∧ Below w.heap.size w w' := by
  go_enter Tryz.func47, Tryz.ntmps47
  go_wp2
  all_goals go_ret
  all_goals refine ⟨ret_bool ?_, (Below.refl _ _).alloc (Nat.le_refl _) _⟩
  all_goals refine Iff.trans ?_ may_iff.symm
  all_goals unfold May
  all_goals simp only [decide_eq_true_eq, Bool.false_eq_true, false_iff] at *
  all_goals omega

section
variable {w : World}
set_option maxHeartbeats 1000000 in
theorem empty_any (A : Option Addr) (c : Nat) (l : List Nat) (h : Pack.Wds w A l) :
    Calls Tryz.prog 122 #[.slice A l.length c] w fun e w' => e = .returned (.bool (l.all (fun x => x == 0))) ∧ w = w' := by
  have hlen := h.len
  have H := Lib.hid h
  clear h
  go_enter Tryz.func122, Tryz.ntmps122
  go_wp2
  go_loopw [7] (fun i wr => ∃ j : Nat, j ≤ l.length ∧ i = .int .i64 (j : Int) ∧ (l.take j).all (fun x => x == 0) = true ∧ w = wr) (fun i _ => l.length - (intOf i).toNat)
  case atStart => exact ⟨0, Nat.zero_le _, rfl, rfl, rfl⟩
  case round =>
    obtain ⟨j, hj, rfl, hs, rfl⟩ := hrel
    have HS := Lib.hid hs
    clear hs
    by_cases hlt : j < l.length
    · obtain ⟨b, o, rfl, hb, hcell⟩ := H.out.at' j hlt
      have hi0 : (0 : Int) ≤ (j : Int) := by omega
      have hi1 : (j : Int) < (l.length : Int) := by omega
      have HT := Lib.hid (show (l.take (j + 1)).all (fun x => x == 0) = (l[j] == 0) by
        rw [List.take_succ_eq_append_getElem hlt, List.all_append, HS.out]
        simp)
      have HA := Lib.hid (show l[j] ≠ 0 → l.all (fun x => x == 0) = false from fun h => by
        rw [Bool.eq_false_iff]
        intro ha
        exact h (by simpa using List.all_eq_true.1 ha l[j] (List.getElem_mem _)))
      generalize l[j] = x at *
      by_cases hx : x = 0
      · subst hx
        go_wp2
        refine ⟨⟨j + 1, by omega, by go_num, HT.out, trivial⟩, by simp [intOf]; omega⟩
      · have HN := Lib.hid (HA.out hx)
        have hne : ¬ (x : Int) = 0 := by omega
        clear HA HT hx
        go_wp2
        go_ret
        exact ⟨by rw [HN.out]; rfl, rfl⟩
    · obtain rfl : j = l.length := by omega
      have HN := Lib.hid (show l.all (fun x => x == 0) = true by have := HS.out; rwa [List.take_length] at this)
      go_wp2
      go_ret
      exact ⟨by rw [HN.out]; rfl, rfl⟩
end

theorem all_zero {l : List Nat} (hl : l.length = 8) : l.all (fun x => x == 0) = decide (l = zero) := by
  have e : ∀ l : List Nat, l.all (fun x => x == 0) = true → l = List.replicate l.length 0 := fun l h => List.eq_replicate_iff.2 ⟨rfl, fun x hx => by simpa using List.all_eq_true.1 h x hx⟩
  cases h : l.all (fun x => x == 0) with
  | true =>
    have := e l h
    rw [hl] at this
    exact (decide_eq_true this).symm
  | false =>
    refine (decide_eq_false (fun h0 => ?_)).symm
    rw [h0] at h
    revert h
    decide
end Rec
end Go.Proofs.YtcojgpjappjobaaGreatDoor
/- The program's line of a record: Encode, walked. -/
namespace Go.Proofs.YtcojgpjappjobaaGreatDoor
open Go.RowKit Go.MapKept
namespace Rec
open Lin

theorem field_any (w : World) (n : Nat) (h : n < 65536) :
    Calls Tryz.prog 138 #[.int .i64 (n : Int)] w fun r w' => r = .returned (.agg #[.int .i64 16, .int .u64 (n : Int)]) ∧ Below w.heap.size w w' := by
  go_enter Tryz.func138, Tryz.ntmps138
  go_wp2
  refine bodyPost_ret (v := .agg #[.int .i64 16, .int .u64 (n : Int)]) ?_ rfl ⟨rfl, ?_⟩
  · simp [results, Tryz.results138, go_sem]
  · first
    | exact (Below.refl _ _).alloc (Nat.le_refl _) _
    | exact (((Below.refl _ _).alloc (Nat.le_refl _) _).setCell (by simp) _).setCell (by simp) _

theorem field_one (w : World) : Calls Tryz.prog 138 #[.int .i64 1] w fun r w' => r = .returned (.agg #[.int .i64 16, .int .u64 1]) ∧ Below w.heap.size w w' := field_any w 1 (by decide)

theorem nums_any (w : World) {s f t : Nat} (hs : s < 65536) (hf : f < 65536) (ht : t < 65536) : Calls Tryz.prog 125 #[.slice (some ⟨w.heap.size, 0, none⟩) 4 4] (w.alloc (.cells #[.int .i64 16, .int .u64 1, .int .i64 16, .int .u64 (s : Int), .int .i64 16, .int .u64 (f : Int), .int .i64 16, .int .u64 (t : Int)] 178)) fun e w' => e = .returned (.tuple #[.int .u64 (nums s f t : Nat), .bool true]) ∧ Below w.heap.size w w' := by
  refine (Pack.pack_any _ 4 _ (fds_four w (n := 1) (by decide) hs hf ht)).mono ?_
  rintro e w' ⟨rfl, hb⟩
  rw [pk_nums hs hf ht]
  have hb0 := (Below.refl w.heap.size w).alloc (Nat.le_refl _) (.cells #[.int .i64 16, .int .u64 ((1 : Nat) : Int), .int .i64 16, .int .u64 (s : Int), .int .i64 16, .int .u64 (f : Int), .int .i64 16, .int .u64 (t : Int)] 178)
  exact ⟨rfl, hb0.trans (hb.mono hb0.size)⟩

theorem encode_no (w : World) (s f t c : Int) (hm : may s f t c = false) :
    Calls Tryz.prog 99 #[.agg #[.int .i64 s, .int .i64 f, .int .i64 t, .int .i64 c]] w fun r w' => r = .returned (.tuple #[.slice none 0 0, .int .i64 1]) ∧ Below w.heap.size w w' := by
  have HM := Lib.hid (fun w => may_any w s f t c)
  have HE := Lib.hid hm
  clear hm
  have HB := Lib.hid ((Below.refl w.heap.size w).alloc (Nat.le_refl _) (.cells #[.int .i64 s, .int .i64 f, .int .i64 t, .int .i64 c] 70))
  go_enter Tryz.func99, Tryz.ntmps99
  go_wp2_with fail
  refine (HM.out _).mono ?_
  rintro e w' ⟨rfl, hb⟩
  rw [HE.out]
  have HB1 := Lib.hid (HB.out.trans (hb.mono HB.out.size))
  clear hb
  go_wp2
  go_ret2
  exact ⟨rfl, HB1.out⟩

theorem set_nums (x : Nat) (j : Nat) (_h : j < 8) : (if j = 0 then x else ([] : List Nat)[j]?.getD 0) = [x][j]?.getD 0 := by
  match j with
  | 0 => rfl
  | j + 1 => simp
theorem set_count (x y : Nat) (j : Nat) (_h : j < 8) : (if j = 1 then y else [x][j]?.getD 0) = [x, y][j]?.getD 0 := by
  match j with
  | 0 => rfl
  | 1 => rfl
  | j + 2 => simp
theorem set_sum (x y z : Nat) (j : Nat) (h : j < 8) : (if j = 7 then z else [x, y][j]?.getD 0) = [x, y, 0, 0, 0, 0, 0, z][j]?.getD 0 := by
  have : j = 0 ∨ j = 1 ∨ j = 2 ∨ j = 3 ∨ j = 4 ∨ j = 5 ∨ j = 6 ∨ j = 7 := by omega
  rcases this with rfl | rfl | rfl | rfl | rfl | rfl | rfl | rfl <;> rfl

theorem front_crc {w : World} {g s f t c : Nat} (h : w.rowIs g 85 8 (rowOf [nums s f t, c])) (hs : s < 65536) (hf : f < 65536) (ht : t < 65536) (hc : c < 18446744073709551616) : Crc.Wds w (some ⟨g, 0, none⟩) (front s f t c) := by
  refine row_crc h (by rw [front_len]; omega) (front_u64 hs hf ht hc) ?_
  intro j hj
  have : j < 7 := hj
  have : j = 0 ∨ j = 1 ∨ j = 2 ∨ j = 3 ∨ j = 4 ∨ j = 5 ∨ j = 6 := by omega
  rcases this with rfl | rfl | rfl | rfl | rfl | rfl | rfl <;> rfl

set_option maxHeartbeats 2000000 in
set_option maxRecDepth 100000 in
theorem encode_yes (w : World) (s f t c : Nat) (hm : may s f t c = true) :
    Calls Tryz.prog 99 #[.agg #[.int .i64 (s : Int), .int .i64 (f : Int), .int .i64 (t : Int), .int .i64 (c : Int)]] w fun r w' => ∃ g : Nat, w.heap.size ≤ g ∧ r = .returned (.tuple #[.slice (some ⟨g, 0, none⟩) 8 8, .int .i64 0]) ∧ w'.rowIs g 85 8 (rowOf (ln s f t c)) ∧ Below w.heap.size w w' := by
  obtain ⟨h1, h2, h3, h4, h5⟩ := may_lt hm
  have HM := Lib.hid (fun w => may_any w s f t c)
  have HE := Lib.hid hm
  have HN0 := Lib.hid (fun w => field_one w)
  have HN1 := Lib.hid (fun w => field_any w s (by omega))
  have HN2 := Lib.hid (fun w => field_any w f (by omega))
  have HN3 := Lib.hid (fun w => field_any w t (by omega))
  have HP := Lib.hid (fun w => nums_any w (s := s) (f := f) (t := t) (by omega) (by omega) (by omega))
  have hs64 : s < 65536 := by omega
  have hf64 : f < 65536 := by omega
  have ht64 : t < 65536 := by omega
  have hc64 : c < 18446744073709551616 := by omega
  clear hm
  have HB := Lib.hid ((Below.refl w.heap.size w).alloc (Nat.le_refl _) (.cells #[.int .i64 (s : Int), .int .i64 (f : Int), .int .i64 (t : Int), .int .i64 (c : Int)] 70))
  have HX := Lib.hid (boxed4 w s f t c 70)
  go_enter Tryz.func99, Tryz.ntmps99
  go_wp2_with fail
  refine (HM.out _).mono ?_
  rintro e w1 ⟨rfl, hb⟩
  rw [HE.out]
  have HB1 := Lib.hid (HB.out.trans (hb.mono HB.out.size))
  have HX1 := Lib.hid (HX.out.keep hb)
  have hsz : w.heap.size < w1.heap.size := HX1.out.lt
  clear hb HX
  have hmk := run_make_row' (P := Tryz.prog) 22 85 _ 8 Tryz.underlying22 Pack.u64_info rfl .i64 .i64 8 (by omega) (by omega) w1
  rw [show ((8 : Nat) : Int) = 8 from rfl] at hmk
  have hb2 := (Below.refl w1.heap.size w1).alloc (Nat.le_refl _) (.cells (madeCells #[.int .u64 0] 8) 85)
  have HE2 := Lib.hid (show En4 w w.heap.size w.heap.size w1.heap.size s f t c [] (w1.alloc (.cells (madeCells #[.int .u64 0] 8) 85)) from ⟨HX1.out.keep hb2, row_made w1, by omega, HB1.out.trans (hb2.mono HB1.out.size), HB1.out.size⟩)
  clear hb2 HX1 HB1 HB HM HE
  go_wp2
  generalize w1.alloc (.cells (madeCells #[.int .u64 0] 8) 85) = w2 at *
  generalize hg : w1.heap.size = g at *
  clear hg hmk
  have hs2 : w.heap.size < w2.heap.size := HE2.out.box.lt
  have hc0 := HE2.out.box.c0
  have hc1 := HE2.out.box.c1
  have hc2 := HE2.out.box.c2
  go_region_held3 (fun W' => W'.cell? ⟨w.heap.size, 0, none⟩ = some (.int .i64 (s : Int)) ∧ W'.cell? ⟨w.heap.size, 1, none⟩ = some (.int .i64 (f : Int)) ∧ W'.cell? ⟨w.heap.size, 2, none⟩ = some (.int .i64 (t : Int))) (go_keep)
    (first
    | (go_at_call 138
       with_reducible refine (HN0.out _).mono ?_
       rintro e w3 ⟨rfl, hb⟩
       have HE3 := Lib.hid (HE2.out.drew.keep hb (Nat.le_of_lt HE2.out.drew.box.lt))
       have ha0 := HE3.out.box.c0
       have ha1 := HE3.out.box.c1
       have ha2 := HE3.out.box.c2
       clear hb)
    | (go_at_call 138
       with_reducible refine (HN1.out _).mono ?_
       rintro e w4 ⟨rfl, hb⟩
       have HE4 := Lib.hid (HE3.out.keep hb (Nat.le_of_lt HE3.out.box.lt))
       have hk0 := HE4.out.box.c0
       have hk1 := HE4.out.box.c1
       have hk2 := HE4.out.box.c2
       clear hb)
    | (go_at_call 138
       with_reducible refine (HN2.out _).mono ?_
       rintro e w5 ⟨rfl, hb⟩
       have HE5 := Lib.hid (HE4.out.keep hb (Nat.le_of_lt HE4.out.box.lt))
       have hl0 := HE5.out.box.c0
       have hl1 := HE5.out.box.c1
       have hl2 := HE5.out.box.c2
       clear hb)
    | (go_at_call 138
       with_reducible refine (HN3.out _).mono ?_
       rintro e w6 ⟨rfl, hb⟩
       have HE6 := Lib.hid (HE5.out.keep hb (Nat.le_of_lt HE5.out.box.lt))
       have hm0 := HE6.out.box.c0
       have hm1 := HE6.out.box.c1
       have hm2 := HE6.out.box.c2
       clear hb)
    | (go_at_call 125
       with_reducible refine (HP.out _).mono ?_
       rintro e w8 ⟨rfl, hb⟩
       have HE8 := Lib.hid (HE6.out.keep hb (Nat.le_of_lt HE6.out.box.lt))
       have hn0 := HE8.out.box.c0
       have hn1 := HE8.out.box.c1
       have hn2 := HE8.out.box.c2
       have hn3 := HE8.out.row.cell (i := 0) (by omega)
       have hn4 := HE8.out.row.frozen 0
       have HE9 := Lib.hid (HE8.out.set 0 (nums s f t) (set_nums _))
       have hq0 := HE9.out.box.c0
       have hq1 := HE9.out.box.c1
       have hq2 := HE9.out.box.c2
       clear hb))
  clear ha0 ha1 ha2 hk0 hk1 hk2 hl0 hl1 hl2 hm0 hm1 hm2 hn0 hn1 hn2 hn3 hn4 hq0 hq1 hq2 hc0 hc1 hc2 HE3 HE4 HE5 HE6 HE8 HE2 HN0 HN1 HN2 HN3 HP hs2
  generalize w8.setCell ⟨g, 0, none⟩ (.int .u64 (nums s f t : Int)) = w9 at *
  have hs9 : w.heap.size < w9.heap.size := HE9.out.box.lt
  have hc3 := HE9.out.box.c3
  have hrc := HE9.out.row.cell (i := 1) (by omega)
  have hrf := HE9.out.row.frozen 1
  have HE10 := Lib.hid (HE9.out.set 1 c (set_count _ _))
  have HC := Lib.hid (Crc.words32_any (some ⟨g, 0, none⟩) 8 (front s f t c) (front_crc HE10.out.row hs64 hf64 ht64 hc64))
  have hsl := sum_lt s f t c
  have hrc7 := HE10.out.row.cell (i := 7) (by omega)
  have hrf7 := HE10.out.row.frozen 7
  go_wp2_with fail
  refine HC.out.mono ?_
  rintro e w' ⟨rfl, rfl⟩
  rw [show Crc.S32 (Crc.wflat (front s f t c)) = sum s f t c from rfl]
  clear HC hc3 hrc hrf
  generalize w9.setCell ⟨g, 1, none⟩ (.int .u64 (c : Int)) = w10 at *
  go_wp2
  go_ret2
  have h11 := HE10.out.set 7 (sum s f t c) (set_sum _ _ _)
  exact ⟨g, h11.nN, rfl, h11.row, h11.below⟩
end Rec
end Go.Proofs.YtcojgpjappjobaaGreatDoor
/- Decode, walked. -/
namespace Go.Proofs.YtcojgpjappjobaaGreatDoor
open Go.RowKit Go.MapKept
namespace Rec
open Lin

/-- a record, all noughts if there is none -/
def gv : Option (Nat × Nat × Nat × Nat) → Value
  | some (s, f, t, c) => .agg #[.int .i64 (s : Int), .int .i64 (f : Int), .int .i64 (t : Int), .int .i64 (c : Int)]
  | none => .agg #[.int .i64 0, .int .i64 0, .int .i64 0, .int .i64 0]

theorem split_yes (w : World) (N : Nat) (hN : w.heap.size = N) (x : Nat) (h : x < 18446744073709551616) : Calls Tryz.prog 112 #[.int .u64 (x : Int), .slice (some ⟨N, 0, none⟩) 4 4] (w.alloc (.cells #[.int .i64 16, .int .i64 16, .int .i64 16, .int .i64 16] 3)) fun e w' => ∃ (b o gc : Nat), e = .returned (.tuple #[.slice (some ⟨b, o, none⟩) 4 gc, .bool true]) ∧ (b < w'.heap.size ∧ w'.cell? ⟨b, o + 1, none⟩ = some (.int .u64 ((x / 65536 % 65536 : Nat) : Int)) ∧ w'.cell? ⟨b, o + 2, none⟩ = some (.int .u64 ((x / 4294967296 % 65536 : Nat) : Int)) ∧ w'.cell? ⟨b, o + 3, none⟩ = some (.int .u64 ((x / 281474976710656 : Nat) : Int))) ∧ Below w.heap.size w w' := by
  subst hN
  refine (Pack.split_any x h _ 4 _ (nts_four w)).mono ?_
  rintro e w' ⟨G, gc, rfl, hw, hb⟩
  have hb0 := (Below.refl w.heap.size w).alloc (Nat.le_refl _) (.cells #[.int .i64 16, .int .i64 16, .int .i64 16, .int .i64 16] 3)
  rw [split_nums h] at hw ⊢
  simp only [Option.getD_some] at hw
  obtain ⟨b, o, rfl, hlt, hc1⟩ := hw.at' 1 (by simp)
  obtain ⟨b', o', e, _, hc2⟩ := hw.at' 2 (by simp)
  injection e with e
  injection e with e1 e2
  subst e1 e2
  obtain ⟨b', o', e, _, hc3⟩ := hw.at' 3 (by simp)
  injection e with e
  injection e with e1 e2
  subst e1 e2
  exact ⟨b, o, gc, rfl, ⟨hlt, hc1, hc2, hc3⟩, hb0.trans (hb.mono hb0.size)⟩

section
variable {w : World}
set_option maxHeartbeats 2000000 in
set_option maxRecDepth 100000 in
theorem decode_any (A : Option Addr) (cp : Nat) (l : List Nat) (h : Pack.Wds w A l) :
    Calls Tryz.prog 76 #[.slice A l.length cp] w fun r w' => r = .returned (.tuple #[gv (dec l), .int .i64 (st l)]) ∧ Below w.heap.size w w' := by
  have hlen := h.len
  have HB := Lib.hid ((Below.refl w.heap.size w).alloc (Nat.le_refl _) (.cells #[.int .i64 0, .int .i64 0, .int .i64 0, .int .i64 0] 70))
  have HX := Lib.hid (owned4 w 0 0 0 0 70)
  by_cases hl : l.length = 8
  · have HEM := Lib.hid (empty_any A cp l (h.keep HB.out))
    rw [all_zero hl, hl] at HEM
    rw [hl]
    by_cases hz : l = zero
    · subst hz
      have HM := HEM
      rw [decide_eq_true rfl] at HM
      have HD := Lib.hid dec_zero
      have HST := Lib.hid st_zero
      clear HEM
      go_enter Tryz.func76, Tryz.ntmps76
      go_wp2_with fail
      refine HM.out.mono ?_
      rintro e w1 ⟨rfl, rfl⟩
      go_wp2
      rw [HD.out, HST.out]
      refine bodyPost_ret (v := .tuple #[gv none, .int .i64 0]) ?_ rfl ⟨rfl, ?_⟩
      · simp [results, Tryz.results76, go_sem, gv]
      · exact HB.out
    · rw [decide_eq_false hz] at HEM
      obtain ⟨b, o, rfl, hb, hcell⟩ := h.at' 0 (by omega)
      rw [Nat.add_zero] at hcell
      obtain ⟨b', o', e, _, hcell1⟩ := h.at' 1 (by omega)
      injection e with e
      injection e with e1 e2
      subst e1 e2
      have hx := h.u64 l[0] (List.getElem_mem _)
      have hy := h.u64 l[1] (List.getElem_mem _)
      have HD0 := Lib.hid (show l[0]?.getD 0 = l[0] by rw [List.getElem?_eq_getElem (by omega)]; rfl)
      have HD1 := Lib.hid (show l[1]?.getD 0 = l[1] by rw [List.getElem?_eq_getElem (by omega)]; rfl)
      have H := Lib.hid h
      have HL := Lib.hid hl
      have HZ := Lib.hid hz
      clear h hz
      generalize l[0] = x at *
      generalize l[1] = y at *
      clear hl
      obtain ⟨s, hs⟩ : ∃ s, s = x / 65536 % 65536 := ⟨_, rfl⟩
      obtain ⟨f, hf⟩ : ∃ f, f = x / 4294967296 % 65536 := ⟨_, rfl⟩
      obtain ⟨t, ht⟩ : ∃ t, t = x / 281474976710656 := ⟨_, rfl⟩
      have hs1 : s < 65536 := by omega
      have hf1 : f < 65536 := by omega
      have ht1 : t < 65536 := by omega
      have HS := Lib.hid (split_yes (w.alloc (.cells #[.int .i64 0, .int .i64 0, .int .i64 0, .int .i64 0] 70)) (w.heap.size + 1) (World.size_alloc _ _) x hx)
      rw [← hs, ← hf, ← ht] at HS
      have HD := Lib.hid (show dec l = if may s f t y = true ∧ l = ln s f t y then some (s, f, t, y) else none by
        unfold dec
        simp only [HD0.out, HD1.out, ← hs, ← hf, ← ht]
        by_cases hc : may s f t y = true ∧ l = ln s f t y
        · rw [if_pos hc, if_pos ⟨HL.out, hc⟩]
        · rw [if_neg hc, if_neg (fun h => hc h.2)])
      clear hs hf ht HD0 HD1
      obtain ⟨S, hS⟩ : ∃ S, S = IntKind.wrap .i64 (y : Int) := ⟨_, rfl⟩
      have HMS := Lib.hid (show may s f t S = may s f t y by
        rw [IntKind.wrap_i64] at hS
        by_cases h63 : y < 9223372036854775808
        · have : S = (y : Int) := by omega
          rw [this]
        · have h1 : may s f t S = false := by
            unfold may May
            exact decide_eq_false (by omega)
          have h2 : may s f t y = false := by
            unfold may May
            exact decide_eq_false (by omega)
          rw [h1, h2])
      have HSY := Lib.hid (show may s f t y = true → S = (y : Int) by
        intro hm
        have := (may_lt hm).2.2.2
        rw [IntKind.wrap_i64] at hS
        omega)
      have hws : IntKind.wrap .i64 (s : Int) = (s : Int) := by rw [IntKind.wrap_i64]; omega
      have hwf : IntKind.wrap .i64 (f : Int) = (f : Int) := by rw [IntKind.wrap_i64]; omega
      have hwt : IntKind.wrap .i64 (t : Int) = (t : Int) := by rw [IntKind.wrap_i64]; omega
      have hwy : IntKind.wrap .i64 (y : Int) = S := hS.symm
      clear hS
      have hcellx := (HB.out.cell (p := ⟨b, o, none⟩) hb).trans hcell
      go_enter Tryz.func76, Tryz.ntmps76
      go_wp2_with fail
      refine HEM.out.mono ?_
      rintro e w0 ⟨rfl, rfl⟩
      clear HEM
      go_wp2_with fail
      refine HS.out.mono ?_
      rintro e w1 ⟨b1, o1, gc, rfl, ⟨hb1, hq1, hq2, hq3⟩, hbw⟩
      have HX1 := Lib.hid (HX.out.keep hbw)
      have HB1 := Lib.hid (HB.out.trans (hbw.mono HB.out.size))
      have hz1 : w.heap.size < w1.heap.size := HX1.out.box.lt
      have hcy : w1.cell? ⟨b, o + 1, none⟩ = some (.int .u64 (y : Int)) := (HB1.out.cell (p := ⟨b, o + 1, none⟩) hb).trans hcell1
      have hbw1 : b < w1.heap.size := Nat.lt_of_lt_of_le hb HB1.out.size
      have H1 := Lib.hid (H.out.keep HB1.out)
      clear hbw HS HX HB H hcell hcell1 hcellx
      go_wp2
      go_region
      have hba := (Below.refl w1.heap.size w1).alloc (Nat.le_refl _) (.cells #[.int .i64 (s : Int), .int .i64 (f : Int), .int .i64 (t : Int), .int .i64 S] 70)
      have HX2 := Lib.hid (HX1.out.keep hba).drew
      have HG2 := Lib.hid (boxed4 w1 s f t S 70).drew
      have HB2 := Lib.hid (HB1.out.trans (hba.mono HB1.out.size)).drew
      have H2 := Lib.hid (H1.out.keep hba.drew)
      clear hws hwf hwt hwy hba HX1 HB1 H1 hb1 hq1 hq2 hq3 hcy hbw1
      go_wp2_with fail
      generalize (w1.alloc (.cells #[.int .i64 (s : Int), .int .i64 (f : Int), .int .i64 (t : Int), .int .i64 S] 70)).drew = w2 at *
      generalize w1.heap.size = k1 at *
      cases hmay : may s f t y with
      | false =>
        have HN := Lib.hid (show dec l = none by rw [HD.out, if_neg (fun h => by rw [hmay] at h; simp at h)])
        have HST := Lib.hid (st_none HZ.out HN.out)
        refine (encode_no _ s f t S (by rw [HMS.out]; exact hmay)).mono ?_
        rintro e w3 ⟨rfl, hb3⟩
        have HX3 := Lib.hid (HX2.out.keep hb3)
        have HB3 := Lib.hid (HB2.out.trans (hb3.mono HB2.out.size))
        clear hb3 hmay HX2 HB2 H2 HD HMS HSY
        have hc0 := HX3.out.box.c0
        have hc1 := HX3.out.box.c1
        have hc2 := HX3.out.box.c2
        have hc3 := HX3.out.box.c3
        have hf0 := HX3.out.f 0
        have hf1 := HX3.out.f 1
        have hf2 := HX3.out.f 2
        have hf3 := HX3.out.f 3
        go_wp2
        rw [HN.out, HST.out]
        refine bodyPost_ret (v := .tuple #[gv none, .int .i64 2]) ?_ rfl ⟨rfl, ?_⟩
        · simp [results, Tryz.results76, go_sem, gv, hc0, hc1, hc2, hc3]
        · exact (((HB3.out.setCell (Nat.le_refl _) _).setCell (Nat.le_refl _) _).setCell (Nat.le_refl _) _).setCell (Nat.le_refl _) _
      | true =>
        obtain rfl := HSY.out hmay
        refine (encode_yes _ s f t y hmay).mono ?_
        rintro e w3 ⟨g, hg, rfl, hrow, hb3⟩
        have he := equal_any (some ⟨b, o, none⟩) (some ⟨g, 0, none⟩) cp 8 l (ln s f t y) (H2.out.keep hb3) (row_pack hrow (ln_len _ _ _ _) (ln_u64 hmay))
        rw [HL.out, ln_len] at he
        have HE := Lib.hid he
        have HX3 := Lib.hid (HX2.out.keep hb3)
        have HG3 := Lib.hid (HG2.out.keep hb3)
        have HB3 := Lib.hid (HB2.out.trans (hb3.mono HB2.out.size))
        have HM := Lib.hid hmay
        clear hb3 hmay HX2 HB2 H2 he hrow HG2 HMS HSY
        go_wp2_with fail
        refine HE.out.mono ?_
        rintro e w4 ⟨rfl, q, hq⟩
        have HX4 := Lib.hid (show Own4 w4 w.heap.size 0 0 0 0 by rw [hq]; exact HX3.out.drewN q)
        have HG4 := Lib.hid (show Box4 w4 k1 s f t y by rw [hq]; exact HG3.out.drewN q)
        have HB4 := Lib.hid (show Below w.heap.size w w4 by rw [hq]; exact Pack.below_drewN HB3.out q)
        clear hq HX3 HG3 HB3 HE
        have hc0 := HX4.out.box.c0
        have hc1 := HX4.out.box.c1
        have hc2 := HX4.out.box.c2
        have hc3 := HX4.out.box.c3
        have hf0 := HX4.out.f 0
        have hf1 := HX4.out.f 1
        have hf2 := HX4.out.f 2
        have hf3 := HX4.out.f 3
        by_cases hls : l = ln s f t y
        · have HN := Lib.hid (show dec l = some (s, f, t, y) by rw [HD.out, if_pos ⟨HM.out, hls⟩])
          have HST := Lib.hid (st_some HN.out)
          rw [decide_eq_true hls]
          have hg0 := HG4.out.c0
          have hg1 := HG4.out.c1
          have hg2 := HG4.out.c2
          have hg3 := HG4.out.c3
          clear hls HD HM HZ
          go_wp2
          rw [HN.out, HST.out]
          refine bodyPost_ret (v := .tuple #[gv (some (s, f, t, y)), .int .i64 1]) ?_ rfl ⟨rfl, ?_⟩
          · simp [results, Tryz.results76, go_sem, gv, hc0, hc1, hc2, hc3]
          · exact (((HB4.out.setCell (Nat.le_refl _) _).setCell (Nat.le_refl _) _).setCell (Nat.le_refl _) _).setCell (Nat.le_refl _) _
        · have HN := Lib.hid (show dec l = none by rw [HD.out, if_neg (fun h => hls h.2)])
          have HST := Lib.hid (st_none HZ.out HN.out)
          rw [decide_eq_false hls]
          clear hls HD HM HZ
          go_wp2
          rw [HN.out, HST.out]
          refine bodyPost_ret (v := .tuple #[gv none, .int .i64 2]) ?_ rfl ⟨rfl, ?_⟩
          · simp [results, Tryz.results76, go_sem, gv, hc0, hc1, hc2, hc3]
          · exact (((HB4.out.setCell (Nat.le_refl _) _).setCell (Nat.le_refl _) _).setCell (Nat.le_refl _) _).setCell (Nat.le_refl _) _
  · have HN := Lib.hid (show dec l = none by
      unfold dec
      exact if_neg (fun h => hl h.1))
    have HST := Lib.hid (st_none (fun h => hl (by rw [h]; rfl)) HN.out)
    have hl' : ¬ (l.length : Int) = 8 := by omega
    go_enter Tryz.func76, Tryz.ntmps76
    go_wp2
    rw [HN.out, HST.out]
    refine bodyPost_ret (v := .tuple #[gv none, .int .i64 2]) ?_ rfl ⟨rfl, ?_⟩
    · simp [results, Tryz.results76, go_sem, gv]
    · exact HB.out
end
end Rec
end Go.Proofs.YtcojgpjappjobaaGreatDoor
/- The document's Encode. -/
namespace Go.Proofs.YtcojgpjappjobaaGreatDoor
open Go.RowKit Go.MapKept
namespace Rec
open Lin

theorem front_new (w : World) (s f t c : Nat) (hs : s < 65536) (hf : f < 65536) (ht : t < 65536) (hc : c < 18446744073709551616) : Crc.Wds (w.alloc (.cells #[.int .u64 ((nums s f t : Nat) : Int), .int .u64 (c : Int), .int .u64 0, .int .u64 0, .int .u64 0, .int .u64 0, .int .u64 0] 85)) (some ⟨w.heap.size, 0, none⟩) (front s f t c) :=
  ⟨front_u64 hs hf ht hc, by rw [front_len]; omega, fun j hj => ⟨w.heap.size, 0, rfl, by simp, by
    rw [World.cell?_alloc_mark, Nat.zero_add]
    have : j < 7 := hj
    match j, this with
    | 0, _ => rfl
    | 1, _ => rfl
    | 2, _ => rfl
    | 3, _ => rfl
    | 4, _ => rfl
    | 5, _ => rfl
    | 6, _ => rfl⟩⟩

set_option maxHeartbeats 2000000 in
set_option maxRecDepth 100000 in
theorem refEncode_gen (w : World) (s f t c N S : Nat) (F L : List Nat) (hs : s ≤ 65533) (hf : f ≤ 65533) (ht : t ≤ 65533) (hc : c ≤ 65534) (hN : (1 + 65536 * (s : Int) + 4294967296 * (f : Int) + 281474976710656 * (t : Int)) = (N : Int))
    (hF : ∀ w : World, Crc.Wds (w.alloc (.cells #[.int .u64 (N : Int), .int .u64 (c : Int), .int .u64 0, .int .u64 0, .int .u64 0, .int .u64 0, .int .u64 0] 85)) (some ⟨w.heap.size, 0, none⟩) F) (hF7 : F.length = 7)
    (hS : Crc.S32 (Crc.wflat F) = S) (hS32 : S < 4294967296) (hL : F ++ [S] = L) (hu : ∀ x ∈ F ++ [S], x < 18446744073709551616) :
    Calls Tryz.prog 49 #[.agg #[.int .i64 (s : Int), .int .i64 (f : Int), .int .i64 (t : Int), .int .i64 (c : Int)]] w fun r w' => ∃ (G : Option Addr) (gc : Nat), r = .returned (.slice G 8 gc) ∧ Pack.Wds w' G L ∧ Below w.heap.size w w' := by
  have HNU := Lib.hid hN
  have HFN := Lib.hid hF
  have HF7 := Lib.hid hF7
  have HSS := Lib.hid hS
  have HLL := Lib.hid hL
  have HU := Lib.hid hu
  clear hN hF hS hL hu hF7
  have HB := Lib.hid ((Below.refl w.heap.size w).alloc (Nat.le_refl _) (.cells #[.int .i64 (s : Int), .int .i64 (f : Int), .int .i64 (t : Int), .int .i64 (c : Int)] 74))
  go_enter Tryz.func49, Tryz.ntmps49
  go_wp2_with fail
  rw [HNU.out]
  have hf1 := HFN.out (w.alloc (.cells #[.int .i64 (s : Int), .int .i64 (f : Int), .int .i64 (t : Int), .int .i64 (c : Int)] 74))
  rw [World.size_alloc] at hf1
  have HF := Lib.hid hf1
  clear hf1
  generalize w.alloc (.cells #[.int .i64 (s : Int), .int .i64 (f : Int), .int .i64 (t : Int), .int .i64 (c : Int)] 74) = w1 at *
  have HB3 := Lib.hid (HB.out.alloc HB.out.size (.cells #[.int .u64 (N : Int), .int .u64 (c : Int), .int .u64 0, .int .u64 0, .int .u64 0, .int .u64 0, .int .u64 0] 85))
  clear HNU HB HFN
  generalize w1.alloc (.cells #[.int .u64 (N : Int), .int .u64 (c : Int), .int .u64 0, .int .u64 0, .int .u64 0, .int .u64 0, .int .u64 0] 85) = w3 at *
  generalize w.heap.size + 1 = g at *
  have HBY := Lib.hid (Crc.bytes_any (some ⟨g, 0, none⟩) 7 F HF.out (by rw [HF7.out]; omega))
  rw [HF7.out] at HBY
  refine HBY.out.mono ?_
  rintro e w4 ⟨rfl, hb⟩
  have HF4 := Lib.hid (HF.out.keep hb)
  have HB4 := Lib.hid (HB3.out.trans (hb.mono HB3.out.size))
  clear hb HF HB3 HBY
  have hsum := Crc.ref32_any w4 (Crc.str (Crc.wflat F)) (by rw [Crc.str_size, Crc.wflat_len, HF7.out]; omega)
  rw [Crc.tx_str (Crc.wflat_byt _), HSS.out] at hsum
  have HS := Lib.hid hsum
  clear hsum
  go_wp2_with fail
  refine HS.out.mono ?_
  rintro e w' ⟨rfl, rfl⟩
  obtain ⟨G, gc, w5, hap, hw, hb5⟩ := grow8 w4 g F S HF7.out HF4.out HU.out
  rw [HLL.out] at hw
  have HAP := Lib.hid hap
  have HW := Lib.hid hw
  have HB5 := Lib.hid (HB4.out.trans (hb5.mono HB4.out.size))
  clear hap hw hb5 HF4 HB4 HU HS
  go_wp2_with (at_builtin; refine wpList_append_run rfl (.tmp 25) (.tmp 30) 22 rfl _ _ _ rfl rfl HAP.out ?_)
  go_ret
  exact ⟨G, gc, rfl, HW.out, HB5.out⟩

theorem refEncode_yes (w : World) (s f t c : Nat) (hm : may s f t c = true) :
    Calls Tryz.prog 49 #[.agg #[.int .i64 (s : Int), .int .i64 (f : Int), .int .i64 (t : Int), .int .i64 (c : Int)]] w fun r w' => ∃ (G : Option Addr) (gc : Nat), r = .returned (.slice G 8 gc) ∧ Pack.Wds w' G (ln s f t c) ∧ Below w.heap.size w w' := by
  obtain ⟨h1, h2, h3, h4, h5⟩ := may_lt hm
  have hu : ∀ x ∈ front s f t c ++ [sum s f t c], x < 18446744073709551616 := full_u64 (by omega) (by omega) (by omega) (by omega)
  exact refEncode_gen w s f t c (nums s f t) (sum s f t c) (front s f t c) (ln s f t c) h1 h2 h3 h5 (by unfold nums; omega) (fun w => front_new w s f t c (by omega) (by omega) (by omega) (by omega)) (front_len _ _ _ _) rfl (sum_lt _ _ _ _) rfl hu
end Rec
end Go.Proofs.YtcojgpjappjobaaGreatDoor
