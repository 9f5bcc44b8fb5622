/- The program's word of a slot: Encode, walked. -/
import Derived.Test.YtjhmmllifecfkaaSloMay
import Derived.Test.YtjhmmllifecfkaaLinOrd
namespace Go.Proofs.Ytjhmmllifecfkaa
open Go.RowKit Go.MapKept
namespace Slo
open Lin

theorem encode_no (w : World) (s c n : Int) (hm : may s c n = false) :
    Calls Try.prog 8 #[.agg #[.int .i64 s, .int .i64 c, .int .i64 n]] w fun r w' => r = .returned (.tuple #[.int .u64 0, .int .i64 1]) ∧ Below w.heap.size w w' := by
  have HM := Lib.hid (fun w => may_any w s c n)
  have HE := Lib.hid hm
  clear hm
  have HB := Lib.hid ((Below.refl w.heap.size w).alloc (Nat.le_refl _) (.cells #[.int .i64 s, .int .i64 c, .int .i64 n] 23))
  go_enter Try.func8, Try.ntmps8
  go_wp2_with fail
  refine (HM.out _).mono ?_
  rintro e w' ⟨rfl, hb⟩
  rw [HE.out]
  have HB1 := Lib.hid (HB.out.trans (hb.mono HB.out.size))
  clear hb
  go_wp2
  go_ret2
  exact ⟨rfl, HB1.out⟩

theorem fds_three (w : World) {n m q : Nat} (hn : n < 65536) (hm : m < 65536) (hq : q < 65536) : Pack.Fds (w.alloc (.cells #[.int .i64 16, .int .u64 (n : Int), .int .i64 16, .int .u64 (m : Int), .int .i64 16, .int .u64 (q : Int)] 46)) (some ⟨w.heap.size, 0, none⟩) [⟨16, n⟩, ⟨16, m⟩, ⟨16, q⟩] :=
  ⟨fun f hf => by
    simp only [List.mem_cons, List.not_mem_nil, or_false] at hf
    rcases hf with rfl | rfl | rfl <;> exact ⟨by simp only; omega, by simp only; omega, by simp only; omega⟩, by simp, fun j hj => by
    have : j < 3 := hj
    match j, this with
    | 0, _ => exact ⟨w.heap.size, 0, rfl, by simp, Pack.alloc_cell _ _ _ _, Pack.alloc_cell _ _ _ _⟩
    | 1, _ => exact ⟨w.heap.size, 0, rfl, by simp, Pack.alloc_cell _ _ _ _, Pack.alloc_cell _ _ _ _⟩
    | 2, _ => exact ⟨w.heap.size, 0, rfl, by simp, Pack.alloc_cell _ _ _ _, Pack.alloc_cell _ _ _ _⟩⟩
theorem fds_four (w : World) {n m q s : Nat} (hn : n < 65536) (hm : m < 65536) (hq : q < 65536) (hs : s < 65536) : Pack.Fds (w.alloc (.cells #[.int .i64 16, .int .u64 (n : Int), .int .i64 16, .int .u64 (m : Int), .int .i64 16, .int .u64 (q : Int), .int .i64 16, .int .u64 (s : Int)] 46)) (some ⟨w.heap.size, 0, none⟩) [⟨16, n⟩, ⟨16, m⟩, ⟨16, q⟩, ⟨16, s⟩] :=
  ⟨fun f hf => by
    simp only [List.mem_cons, List.not_mem_nil, or_false] at hf
    rcases hf with rfl | rfl | rfl | rfl <;> exact ⟨by simp only; omega, by simp only; omega, by simp only; omega⟩, by simp, fun j hj => by
    have : j < 4 := hj
    match j, this with
    | 0, _ => exact ⟨w.heap.size, 0, rfl, by simp, Pack.alloc_cell _ _ _ _, Pack.alloc_cell _ _ _ _⟩
    | 1, _ => exact ⟨w.heap.size, 0, rfl, by simp, Pack.alloc_cell _ _ _ _, Pack.alloc_cell _ _ _ _⟩
    | 2, _ => exact ⟨w.heap.size, 0, rfl, by simp, Pack.alloc_cell _ _ _ _, Pack.alloc_cell _ _ _ _⟩
    | 3, _ => exact ⟨w.heap.size, 0, rfl, by simp, Pack.alloc_cell _ _ _ _, Pack.alloc_cell _ _ _ _⟩⟩

theorem three_any (w : World) {n m q : Nat} (hn : n < 65536) (hm : m < 65536) (hq : q < 65536) : Calls Try.prog 20 #[.slice (some ⟨w.heap.size, 0, none⟩) 3 3] (w.alloc (.cells #[.int .i64 16, .int .u64 (n : Int), .int .i64 16, .int .u64 (m : Int), .int .i64 16, .int .u64 (q : Int)] 46)) fun e w' => e = .returned (.tuple #[.int .u64 (nums n m q : Nat), .bool true]) ∧ Below w.heap.size w w' := by
  refine (Pack.pack_any _ 3 _ (fds_three w hn hm hq)).mono ?_
  rintro e w' ⟨rfl, hb⟩
  rw [pk_three hn hm hq]
  have hb0 := (Below.refl w.heap.size w).alloc (Nat.le_refl _) (.cells #[.int .i64 16, .int .u64 (n : Int), .int .i64 16, .int .u64 (m : Int), .int .i64 16, .int .u64 (q : Int)] 46)
  exact ⟨rfl, hb0.trans (hb.mono hb0.size)⟩
theorem four_any (w : World) {n m q s : Nat} (hn : n < 65536) (hm : m < 65536) (hq : q < 65536) (hs : s < 65536) : Calls Try.prog 20 #[.slice (some ⟨w.heap.size, 0, none⟩) 4 4] (w.alloc (.cells #[.int .i64 16, .int .u64 (n : Int), .int .i64 16, .int .u64 (m : Int), .int .i64 16, .int .u64 (q : Int), .int .i64 16, .int .u64 (s : Int)] 46)) fun e w' => e = .returned (.tuple #[.int .u64 (nums n m q + 281474976710656 * s : Nat), .bool true]) ∧ Below w.heap.size w w' := by
  refine (Pack.pack_any _ 4 _ (fds_four w hn hm hq hs)).mono ?_
  rintro e w' ⟨rfl, hb⟩
  rw [pk_four hn hm hq hs]
  have hb0 := (Below.refl w.heap.size w).alloc (Nat.le_refl _) (.cells #[.int .i64 16, .int .u64 (n : Int), .int .i64 16, .int .u64 (m : Int), .int .i64 16, .int .u64 (q : Int), .int .i64 16, .int .u64 (s : Int)] 46)
  exact ⟨rfl, hb0.trans (hb.mono hb0.size)⟩

/-- one word in a new row -/
theorem one_wds (w : World) {x : Nat} (h : x < 18446744073709551616) : Pack.Wds (w.alloc (.cells #[.int .u64 (x : Int)] 25)) (some ⟨w.heap.size, 0, none⟩) [x] :=
  ⟨fun y hy => by
    obtain rfl : y = x := by simpa using hy
    exact h, by simp, fun j hj => by
    have : j < 1 := hj
    match j, this with
    | 0, _ => exact ⟨w.heap.size, 0, rfl, by simp, Pack.alloc_cell _ _ _ _⟩⟩

/-- a word's bytes -/
theorem bytes_one (w : World) {x : Nat} (h : x < 18446744073709551616) : Calls Try.prog 22 #[.slice (some ⟨w.heap.size, 0, none⟩) 1 1] (w.alloc (.cells #[.int .u64 (x : Int)] 25)) fun e w' => ∃ (b o gc : Nat), e = .returned (.slice (some ⟨b, o, none⟩) 8 gc) ∧ 8 ≤ gc ∧ Crc.Bts w' (some ⟨b, o, none⟩) (six x) ∧ Below w.heap.size w w' := by
  refine (Pack.bytes_any _ 1 _ (one_wds w h) (by simp)).mono ?_
  rintro e w' ⟨G, gc, rfl, hc, hw, hb⟩
  have hb0 := (Below.refl w.heap.size w).alloc (Nat.le_refl _) (.cells #[.int .u64 (x : Int)] 25)
  have e8 : Pack.wflat [x] = Pack.wb x := by simp [Pack.wflat]
  rw [e8] at hw
  obtain ⟨b, o, rfl, _, _⟩ := hw.at' 0 (by rw [Pack.wb_len]; omega)
  refine ⟨b, o, gc, rfl, hc, ⟨six_byt x, by rw [six_len]; omega, fun j hj => ?_⟩, hb0.trans (hb.mono hb0.size)⟩
  rw [six_len] at hj
  obtain ⟨b', o', e, hlt, hc⟩ := hw.at' j (by rw [Pack.wb_len]; omega)
  refine ⟨b', o', e, hlt, hc.trans ?_⟩
  have : (six x)[j]'(by rw [six_len]; exact hj) = (Pack.wb x)[j]'(by rw [Pack.wb_len]; omega) := by
    unfold six
    rw [List.getElem_take]
    rfl
  rw [this]

/-- a value, once it is there -/
def on (b : Bool) (v : Value) : Value := bif b then v else undef
theorem on_true (v : Value) : on true v = v := rfl
theorem on_false (v : Value) : on false v = undef := rfl
/-- a field -/
def fv (n : Nat) : Value := .agg #[.int .i64 16, .int .u64 (n : Int)]
/-- where a variable lies -/
def ptr (p : Nat) : Value := .pointer (some ⟨p, 0, none⟩)

/-- the three variables of Encode: which of them are made, and where they lie -/
structure St (w0 : World) (N : Nat) (s c n : Int) (x y z : Bool) (p1 p2 p3 : Nat) (W : World) : Prop where
  box : Box W N s c n
  below : Below N w0 W
  f1 : x = true → Fw W p1 0 0 ∧ N < p1
  f2 : y = true → Fw W p2 0 0 ∧ N < p2
  f3 : z = true → Fw W p3 0 0 ∧ N < p3
  d12 : x = true → y = true → p1 ≠ p2
  d13 : x = true → z = true → p1 ≠ p3
  d23 : y = true → z = true → p2 ≠ p3
section
variable {w0 W W' : World} {N p1 p2 p3 : Nat} {s c n : Int} {x y z : Bool}
theorem St.keep (h : St w0 N s c n x y z p1 p2 p3 W) (hb : Below W.heap.size W W') : St w0 N s c n x y z p1 p2 p3 W' :=
  ⟨h.box.keep hb, h.below.trans (hb.mono (Nat.le_of_lt h.box.lt)), fun e => ⟨(h.f1 e).1.keep hb, (h.f1 e).2⟩, fun e => ⟨(h.f2 e).1.keep hb, (h.f2 e).2⟩, fun e => ⟨(h.f3 e).1.keep hb, (h.f3 e).2⟩, h.d12, h.d13, h.d23⟩
theorem St.new1 (h : St w0 N s c n x y z p1 p2 p3 W) (t : TypeId) : St w0 N s c n true y z W.heap.size p2 p3 (W.alloc (.cells #[.int .i64 0, .int .u64 0] t)) := by
  have hb := (Below.refl W.heap.size W).alloc (Nat.le_refl _) (.cells #[.int .i64 0, .int .u64 0] t)
  have hk := h.keep hb
  exact ⟨hk.box, hk.below, fun _ => ⟨fw_new W 0 0 t, h.box.lt⟩, hk.f2, hk.f3, fun _ e => Nat.ne_of_gt (h.f2 e).1.lt, fun _ e => Nat.ne_of_gt (h.f3 e).1.lt, hk.d23⟩
theorem St.new2 (h : St w0 N s c n x y z p1 p2 p3 W) (t : TypeId) : St w0 N s c n x true z p1 W.heap.size p3 (W.alloc (.cells #[.int .i64 0, .int .u64 0] t)) := by
  have hb := (Below.refl W.heap.size W).alloc (Nat.le_refl _) (.cells #[.int .i64 0, .int .u64 0] t)
  have hk := h.keep hb
  exact ⟨hk.box, hk.below, hk.f1, fun _ => ⟨fw_new W 0 0 t, h.box.lt⟩, hk.f3, fun e _ => Nat.ne_of_lt (h.f1 e).1.lt, hk.d13, fun _ e => Nat.ne_of_gt (h.f3 e).1.lt⟩
theorem St.new3 (h : St w0 N s c n x y z p1 p2 p3 W) (t : TypeId) : St w0 N s c n x y true p1 p2 W.heap.size (W.alloc (.cells #[.int .i64 0, .int .u64 0] t)) := by
  have hb := (Below.refl W.heap.size W).alloc (Nat.le_refl _) (.cells #[.int .i64 0, .int .u64 0] t)
  have hk := h.keep hb
  exact ⟨hk.box, hk.below, hk.f1, hk.f2, fun _ => ⟨fw_new W 0 0 t, h.box.lt⟩, hk.d12, fun e _ => Nat.ne_of_lt (h.f1 e).1.lt, fun e _ => Nat.ne_of_lt (h.f2 e).1.lt⟩
end

/-- the states of the region of slot.go:47: how many calls are done, which variables are made -/
def lst (s : Nat × Bool × Bool × Bool) : Array Bool := #[true, true, Nat.blt 0 s.1, true, true, Nat.blt 1 s.1, true, true, Nat.blt 2 s.1, Nat.blt 3 s.1, s.2.1, s.2.2.1, s.2.2.2, false, false, false]
def left (s : Nat × Bool × Bool × Bool) : Nat := (4 - s.1) + ((!s.2.1).toNat + ((!s.2.2.1).toNat + (!s.2.2.2).toNat))
def calls : Nat → List Nat
  | 0 => [2]
  | 1 => [5]
  | 2 => [8]
  | 3 => [9]
  | _ => []
def rdy (s : Nat × Bool × Bool × Bool) : List Nat := calls s.1 ++ ((bif s.2.1 then [] else [10]) ++ ((bif s.2.2.1 then [] else [11]) ++ (bif s.2.2.2 then [] else [12])))
def act (N s c q : Nat) (n : Int) (k : Nat) (x y z : Bool) (p1 p2 p3 : Nat) : Act :=
  { tmps := #[.agg #[.int .i64 (s : Int), .int .i64 (c : Int), .int .i64 n], .pointer (some ⟨N, 0, none⟩), .int .u64 0, .int .i64 0, on x (ptr p1), on y (ptr p2), on z (ptr p3), undef, undef, undef, undef, undef, .agg #[.int .i64 (s : Int), .int .i64 (c : Int), .int .i64 n], .bool true, .bool false, .pointer (some ⟨N, 0, none⟩), .int .i64 (s : Int), on (Nat.blt 0 k) (fv s), .pointer (some ⟨N, 1, none⟩), .int .i64 (c : Int), on (Nat.blt 1 k) (fv c), .pointer (some ⟨N, 2, none⟩), .int .i64 n, on (Nat.blt 2 k) (.int .i64 (q : Int)), on (Nat.blt 3 k) (fv q), undef, undef, undef, undef, undef, undef, undef, undef, undef, undef, undef, undef, undef, undef, undef, undef, undef, undef, undef, undef, undef, undef, undef, undef, undef, undef], defers := [] }
theorem left_pos {k : Nat} {x y z : Bool} (hk : k ≤ 4) (h : left (k, x, y, z) = 0) : k = 4 ∧ x = true ∧ y = true ∧ z = true := by
  unfold left at h
  cases x <;> cases y <;> cases z <;> simp at h ⊢ <;> omega
theorem left_call {k : Nat} {x y z : Bool} (hk : k < 4) : left (k, x, y, z) = left (k + 1, x, y, z) + 1 := by
  unfold left
  simp only
  omega
theorem left_one (k : Nat) (y z : Bool) : left (k, false, y, z) = left (k, true, y, z) + 1 := by
  unfold left
  simp
  omega
theorem left_two (k : Nat) (x z : Bool) : left (k, x, false, z) = left (k, x, true, z) + 1 := by
  unfold left
  simp
  omega
theorem left_three (k : Nat) (x y : Bool) : left (k, x, y, false) = left (k, x, y, true) + 1 := by
  unfold left
  simp
  omega

set_option maxHeartbeats 2000000 in
set_option maxRecDepth 100000 in
theorem encode_yes (w : World) (s c q : Nat) (n : Int) (hn : n = nx q) (hm : may s c (nx q) = true) :
    Calls Try.prog 8 #[.agg #[.int .i64 (s : Int), .int .i64 (c : Int), .int .i64 n]] w fun r w' => r = .returned (.tuple #[.int .u64 (wd s c q : Nat), .int .i64 0]) ∧ Below w.heap.size w w' := by
  obtain ⟨h1, h2, h3, h4⟩ := may_lt hm
  have hs64 : s < 65536 := by omega
  have hc64 : c < 65536 := by omega
  have HM := Lib.hid (fun w => may_any w s c n)
  have HE := Lib.hid (show may s c n = true by rw [hn]; exact hm)
  have HT := Lib.hid (fun w => toField_any w n q hn h4)
  have HF1 := Lib.hid (fun w => field_any w s hs64)
  have HF2 := Lib.hid (fun w => field_any w c hc64)
  have HF3 := Lib.hid (fun w => field_any w q h4)
  have HF4 := Lib.hid (fun w => field_any w (sum s c q) (sum_lt s c q))
  have HP3 := Lib.hid (fun w => three_any w hs64 hc64 h4)
  have HP4 := Lib.hid (fun w => four_any w hs64 hc64 h4 (sum_lt s c q))
  have hnl := nums_lt hs64 hc64 h4
  have HBY := Lib.hid (fun w => bytes_one w (x := nums s c q) (by omega))
  have hsl := sum_lt s c q
  clear hm hn h1 h2 h3
  have HB := Lib.hid ((Below.refl w.heap.size w).alloc (Nat.le_refl _) (.cells #[.int .i64 (s : Int), .int .i64 (c : Int), .int .i64 n] 23))
  have HX := Lib.hid (boxed w s c n 23)
  go_enter Try.func8, Try.ntmps8
  go_wp2_with fail
  refine (HM.out _).mono ?_
  rintro e w1 ⟨rfl, hb⟩
  rw [HE.out]
  have HB1 := Lib.hid (HB.out.trans (hb.mono HB.out.size))
  have HX1 := Lib.hid (HX.out.keep hb)
  clear hb HX HB HM HE
  have hk0 := HX1.out.c0
  have hk1 := HX1.out.c1
  have hk2 := HX1.out.c2
  have hsz : w.heap.size < w1.heap.size := HX1.out.lt
  go_wp2
  refine wp_region_held_drew (S := (fun W' => Box W' w.heap.size s c n)) (by kernel_rfl) HX1.out.drew (fun hHeld => ?_)
  clear hk0 hk1 hk2
  refine take_yes 0 15 (.pointer (some ⟨w.heap.size, 0, none⟩)) rfl rfl (by kernel_rfl) (by kernel_rfl) (by kernel_rfl) (fun _ _ _ h => h) rfl ?_ (by assumption) ?_
  · intro W hSw
    try dsimp only at hSw
    go_simp
  simp only [Act.put, List.setIfInBounds_toArray, List.set_cons_zero, List.set_cons_succ]
  refine take_yes 1 16 (.int .i64 (s : Int)) rfl rfl (by kernel_rfl) (by kernel_rfl) (by kernel_rfl) (fun _ _ _ h => h) rfl ?_ (by assumption) ?_
  · intro W hSw
    try dsimp only at hSw
    have hv := hSw.c0
    go_simp
  simp only [Act.put, List.setIfInBounds_toArray, List.set_cons_zero, List.set_cons_succ]
  refine take_yes 3 18 (.pointer (some ⟨w.heap.size, 1, none⟩)) rfl rfl (by kernel_rfl) (by kernel_rfl) (by kernel_rfl) (fun _ _ _ h => h) rfl ?_ (by assumption) ?_
  · intro W hSw
    try dsimp only at hSw
    go_simp
  simp only [Act.put, List.setIfInBounds_toArray, List.set_cons_zero, List.set_cons_succ]
  refine take_yes 4 19 (.int .i64 (c : Int)) rfl rfl (by kernel_rfl) (by kernel_rfl) (by kernel_rfl) (fun _ _ _ h => h) rfl ?_ (by assumption) ?_
  · intro W hSw
    try dsimp only at hSw
    have hv := hSw.c1
    go_simp
  simp only [Act.put, List.setIfInBounds_toArray, List.set_cons_zero, List.set_cons_succ]
  refine take_yes 6 21 (.pointer (some ⟨w.heap.size, 2, none⟩)) rfl rfl (by kernel_rfl) (by kernel_rfl) (by kernel_rfl) (fun _ _ _ h => h) rfl ?_ (by assumption) ?_
  · intro W hSw
    try dsimp only at hSw
    go_simp
  simp only [Act.put, List.setIfInBounds_toArray, List.set_cons_zero, List.set_cons_succ]
  refine take_yes 7 22 (.int .i64 n) rfl rfl (by kernel_rfl) (by kernel_rfl) (by kernel_rfl) (fun _ _ _ h => h) rfl ?_ (by assumption) ?_
  · intro W hSw
    try dsimp only at hSw
    have hv := hSw.c2
    go_simp
  simp only [Act.put, List.setIfInBounds_toArray, List.set_cons_zero, List.set_cons_succ]
  refine any_states (σ := Nat × Bool × Bool × Bool) lst left rdy (fun st a W => st.1 ≤ 4 ∧ ∃ p1 p2 p3, a = act w.heap.size s c q n st.1 st.2.1 st.2.2.1 st.2.2.2 p1 p2 p3 ∧ St w w.heap.size s c n st.2.1 st.2.2.1 st.2.2.2 p1 p2 p3 W) 3 ?_ ?_ ?_ 7 (0, false, false, false) _ _ rfl ⟨by omega, 0, 0, 0, rfl, HX1.out.drew, HB1.out.drew, (fun e => by cases e), (fun e => by cases e), (fun e => by cases e), (fun e => by cases e), (fun e => by cases e), (fun e => by cases e)⟩
  · rintro ⟨k, x, y, z⟩ a W ⟨hk, _⟩ hn
    have hk' : k = 0 ∨ k = 1 ∨ k = 2 ∨ k = 3 ∨ k = 4 := by simp only at hk; omega
    clear hk
    rcases hk' with rfl | rfl | rfl | rfl | rfl <;> cases x <;> cases y <;> cases z <;> first | exact absurd rfl hn | exact ⟨by kernel_rfl, by decide⟩
  · rintro ⟨k, x, y, z⟩ a W ⟨hk, p1, p2, p3, rfl, hst⟩ hn i hi
    clear hn
    simp only [rdy, List.mem_append] at hi hst hk ⊢
    have HS := Lib.hid hst
    clear hst
    rcases hi with hi | hi | hi | hi
    · have hk' : k = 0 ∨ k = 1 ∨ k = 2 ∨ k = 3 ∨ k = 4 := by omega
      clear hk
      rcases hk' with rfl | rfl | rfl | rfl | rfl
      · obtain rfl : i = 2 := by simpa [calls] using hi
        refine op_step rfl (fun K hK => ?_)
        simp only [act, Nat.blt, Nat.ble, on_false]
        go_simp
        go_at_call 18
        with_reducible refine (HF1.out _).mono ?_
        rintro e W' ⟨rfl, hb⟩
        exact hK.out _ _ ⟨(1, x, y, z), rfl, left_call (by omega), (HS.out.keep hb).box, by omega, p1, p2, p3, rfl, (HS.out.keep hb)⟩
      · obtain rfl : i = 5 := by simpa [calls] using hi
        refine op_step rfl (fun K hK => ?_)
        simp only [act, Nat.blt, Nat.ble, on_true, on_false]
        go_simp
        go_at_call 18
        with_reducible refine (HF2.out _).mono ?_
        rintro e W' ⟨rfl, hb⟩
        exact hK.out _ _ ⟨(2, x, y, z), rfl, left_call (by omega), (HS.out.keep hb).box, by omega, p1, p2, p3, rfl, (HS.out.keep hb)⟩
      · obtain rfl : i = 8 := by simpa [calls] using hi
        refine op_step rfl (fun K hK => ?_)
        simp only [act, Nat.blt, Nat.ble, on_true, on_false]
        go_simp
        go_at_call 19
        with_reducible refine (HT.out _).mono ?_
        rintro e W' ⟨rfl, rfl⟩
        exact hK.out _ _ ⟨(3, x, y, z), rfl, left_call (by omega), HS.out.box, by omega, p1, p2, p3, rfl, HS.out⟩
      · obtain rfl : i = 9 := by simpa [calls] using hi
        refine op_step rfl (fun K hK => ?_)
        simp only [act, Nat.blt, Nat.ble, on_true, on_false]
        go_simp
        go_at_call 18
        with_reducible refine (HF3.out _).mono ?_
        rintro e W' ⟨rfl, hb⟩
        exact hK.out _ _ ⟨(4, x, y, z), rfl, left_call (by omega), (HS.out.keep hb).box, by omega, p1, p2, p3, rfl, (HS.out.keep hb)⟩
      · simp [calls] at hi
    · cases x with
      | true => simp at hi
      | false =>
        obtain rfl : i = 10 := by simpa using hi
        refine op_step rfl (fun K hK => ?_)
        simp only [act]
        go_simp
        exact hK.out _ _ ⟨(k, true, y, z), rfl, left_one _ _ _, (HS.out.new1 _).box, hk, W.heap.size, p2, p3, rfl, HS.out.new1 _⟩
    · cases y with
      | true => simp at hi
      | false =>
        obtain rfl : i = 11 := by simpa using hi
        refine op_step rfl (fun K hK => ?_)
        simp only [act]
        go_simp
        exact hK.out _ _ ⟨(k, x, true, z), rfl, left_two _ _ _, (HS.out.new2 _).box, hk, p1, W.heap.size, p3, rfl, HS.out.new2 _⟩
    · cases z with
      | true => simp at hi
      | false =>
        obtain rfl : i = 12 := by simpa using hi
        refine op_step rfl (fun K hK => ?_)
        simp only [act]
        go_simp
        exact hK.out _ _ ⟨(k, x, y, true), rfl, left_three _ _ _, (HS.out.new3 _).box, hk, p1, p2, W.heap.size, rfl, HS.out.new3 _⟩
  · rintro ⟨k, x, y, z⟩ a W ⟨hk, p1, p2, p3, rfl, hst⟩ hn
    obtain ⟨rfl, rfl, rfl, rfl⟩ := left_pos hk hn
    clear hk hn
    have HS := Lib.hid hst
    clear hst
    simp only [act, Nat.blt, Nat.ble, on_true, ptr, fv]
    obtain ⟨ha1, hb1⟩ := HS.out.f1 rfl
    obtain ⟨ha2, hb2⟩ := HS.out.f2 rfl
    obtain ⟨ha3, hb3⟩ := HS.out.f3 rfl
    have hd12 := HS.out.d12 rfl rfl
    have hd13 := HS.out.d13 rfl rfl
    have hd23 := HS.out.d23 rfl rfl
    have HBX := Lib.hid HS.out.box
    have HBL := Lib.hid HS.out.below
    have hg0 := ha1.c0
    have hg1 := ha1.c1
    have hg2 := ha1.f 0
    have hg3 := ha1.f 1
    have H1 := Lib.hid ha1
    have H2 := Lib.hid ha2
    have H3 := Lib.hid ha3
    clear ha1 ha2 ha3 HS hHeld
    refine wpAnyH_ready (rs := [13]) (by kernel_rfl) (by simp) ?_
    refine AllReadyH.cons rfl (fun K hK => ?_) AllReadyH.nil
    go_simp
    refine hK.out _ _ (HBX.out.other (by omega) _ _) (fun _ => ?_)
    clear hK K hg0 hg1 hg2 hg3
    have HBX_1 := Lib.hid (HBX.out.other (show w.heap.size ≠ p1 by omega) (.int .i64 16) (.int .u64 (s : Int)))
    have HBL_1 := Lib.hid ((HBL.out.setCell (p := ⟨p1, 0, none⟩) (Nat.le_of_lt hb1) (.int .i64 16)).setCell (p := ⟨p1, 1, none⟩) (Nat.le_of_lt hb1) (.int .u64 (s : Int)))
    have H1_1 := Lib.hid (H1.out.set 16 s)
    have H2_1 := Lib.hid (H2.out.other (show p2 ≠ p1 by omega) (.int .i64 16) (.int .u64 (s : Int)))
    have H3_1 := Lib.hid (H3.out.other (show p3 ≠ p1 by omega) (.int .i64 16) (.int .u64 (s : Int)))
    clear HBX HBL H1 H2 H3
    generalize (W.setCell ⟨p1, 0, none⟩ (.int .i64 16)).setCell ⟨p1, 1, none⟩ (.int .u64 (s : Int)) = W1 at *
    have hg0_1 := H2_1.out.c0
    have hg1_1 := H2_1.out.c1
    have hg2_1 := H2_1.out.f 0
    have hg3_1 := H2_1.out.f 1
    refine wpAnyH_ready (rs := [14]) (by kernel_rfl) (by simp) ?_
    refine AllReadyH.cons rfl (fun K hK => ?_) AllReadyH.nil
    go_simp
    refine hK.out _ _ (HBX_1.out.other (by omega) _ _) (fun _ => ?_)
    clear hK K hg0_1 hg1_1 hg2_1 hg3_1
    have HBX_2 := Lib.hid (HBX_1.out.other (show w.heap.size ≠ p2 by omega) (.int .i64 16) (.int .u64 (c : Int)))
    have HBL_2 := Lib.hid ((HBL_1.out.setCell (p := ⟨p2, 0, none⟩) (Nat.le_of_lt hb2) (.int .i64 16)).setCell (p := ⟨p2, 1, none⟩) (Nat.le_of_lt hb2) (.int .u64 (c : Int)))
    have H1_2 := Lib.hid (H1_1.out.other (show p1 ≠ p2 by omega) (.int .i64 16) (.int .u64 (c : Int)))
    have H2_2 := Lib.hid (H2_1.out.set 16 c)
    have H3_2 := Lib.hid (H3_1.out.other (show p3 ≠ p2 by omega) (.int .i64 16) (.int .u64 (c : Int)))
    clear HBX_1 HBL_1 H1_1 H2_1 H3_1
    generalize (W1.setCell ⟨p2, 0, none⟩ (.int .i64 16)).setCell ⟨p2, 1, none⟩ (.int .u64 (c : Int)) = W2 at *
    have hg0_2 := H3_2.out.c0
    have hg1_2 := H3_2.out.c1
    have hg2_2 := H3_2.out.f 0
    have hg3_2 := H3_2.out.f 1
    refine wpAnyH_ready (rs := [15]) (by kernel_rfl) (by simp) ?_
    refine AllReadyH.cons rfl (fun K hK => ?_) AllReadyH.nil
    go_simp
    refine hK.out _ _ (HBX_2.out.other (by omega) _ _) (fun _ => ?_)
    clear hK K hg0_2 hg1_2 hg2_2 hg3_2
    have HBX_3 := Lib.hid (HBX_2.out.other (show w.heap.size ≠ p3 by omega) (.int .i64 16) (.int .u64 (q : Int)))
    have HBL_3 := Lib.hid ((HBL_2.out.setCell (p := ⟨p3, 0, none⟩) (Nat.le_of_lt hb3) (.int .i64 16)).setCell (p := ⟨p3, 1, none⟩) (Nat.le_of_lt hb3) (.int .u64 (q : Int)))
    have H1_3 := Lib.hid (H1_2.out.other (show p1 ≠ p3 by omega) (.int .i64 16) (.int .u64 (q : Int)))
    have H2_3 := Lib.hid (H2_2.out.other (show p2 ≠ p3 by omega) (.int .i64 16) (.int .u64 (q : Int)))
    have H3_3 := Lib.hid (H3_2.out.set 16 q)
    clear HBX_2 HBL_2 H1_2 H2_2 H3_2
    generalize (W2.setCell ⟨p3, 0, none⟩ (.int .i64 16)).setCell ⟨p3, 1, none⟩ (.int .u64 (q : Int)) = W3 at *
    refine wpAnyH_done (by kernel_rfl) ?_ _
    have hg0 := H1_3.out.c0
    have hg1 := H1_3.out.c1
    have hg2 := H2_3.out.c0
    have hg3 := H2_3.out.c1
    have hg4 := H3_3.out.c0
    have hg5 := H3_3.out.c1
    clear HBX_3 HF1 HF2 HF3 HT HX1 HB1 hsz
    go_wp2_with fail
    refine (HP3.out _).mono ?_
    rintro e W4 ⟨rfl, hb⟩
    have HBL_4 := Lib.hid (HBL_3.out.trans (hb.mono HBL_3.out.size))
    have H1_4 := Lib.hid (H1_3.out.keep hb)
    have H2_4 := Lib.hid (H2_3.out.keep hb)
    have H3_4 := Lib.hid (H3_3.out.keep hb)
    clear hb hg0 hg1 hg2 hg3 hg4 hg5 HBL_3 H1_3 H2_3 H3_3 HP3
    go_wp2_with fail
    refine (HBY.out _).mono ?_
    rintro e W5 ⟨b, o, gc, rfl, hgc, hbt, hb⟩
    have HBL_5 := Lib.hid (HBL_4.out.trans (hb.mono HBL_4.out.size))
    have H1_5 := Lib.hid (H1_4.out.keep hb)
    have H2_5 := Lib.hid (H2_4.out.keep hb)
    have H3_5 := Lib.hid (H3_4.out.keep hb)
    have hs16 := Crc.sum16_one gc 1 hbt
    rw [six_len, show Crc.S16 (six (nums s c q)) = sum s c q from rfl] at hs16
    have HS16 := Lib.hid hs16
    clear hb hbt hs16 HBL_4 H1_4 H2_4 H3_4 HBY
    go_wp2_with fail
    refine HS16.out.mono ?_
    rintro e w' ⟨rfl, rfl⟩
    have hba := (Below.refl W5.heap.size W5).alloc (Nat.le_refl _) (.cells #[.slice (some ⟨b, o, none⟩) 6 gc] 51)
    have HBL_6 := Lib.hid (HBL_5.out.trans (hba.mono HBL_5.out.size))
    have H1_6 := Lib.hid (H1_5.out.keep hba)
    have H2_6 := Lib.hid (H2_5.out.keep hba)
    have H3_6 := Lib.hid (H3_5.out.keep hba)
    clear hba HS16 HBL_5 H1_5 H2_5 H3_5
    generalize W5.alloc (.cells #[.slice (some ⟨b, o, none⟩) 6 gc] 51) = W6 at *
    have hg0 := H1_6.out.c0
    have hg1 := H1_6.out.c1
    have hg2 := H2_6.out.c0
    have hg3 := H2_6.out.c1
    have hg4 := H3_6.out.c0
    have hg5 := H3_6.out.c1
    have hws : IntKind.wrap .i64 ((sum s c q : Nat) : Int) = ((sum s c q : Nat) : Int) := by rw [IntKind.wrap_i64]; omega
    go_wp2
    go_region_held3 (fun W' => (W'.cell? ⟨p1, 0, none⟩ = some (.int .i64 16) ∧ W'.cell? ⟨p1, 1, none⟩ = some (.int .u64 (s : Int))) ∧ (W'.cell? ⟨p2, 0, none⟩ = some (.int .i64 16) ∧ W'.cell? ⟨p2, 1, none⟩ = some (.int .u64 (c : Int))) ∧ (W'.cell? ⟨p3, 0, none⟩ = some (.int .i64 16) ∧ W'.cell? ⟨p3, 1, none⟩ = some (.int .u64 (q : Int)))) (go_keep)
      (first
      | (go_at_call 18
         with_reducible refine (HF4.out _).mono ?_
         rintro e W7 ⟨rfl, hb⟩
         have HBL_7 := Lib.hid (HBL_6.out.drew.trans (hb.mono HBL_6.out.drew.size))
         have H1_7 := Lib.hid (H1_6.out.drew.keep hb)
         have H2_7 := Lib.hid (H2_6.out.drew.keep hb)
         have H3_7 := Lib.hid (H3_6.out.drew.keep hb)
         have hh0 := H1_7.out.c0
         have hh1 := H1_7.out.c1
         have hh2 := H2_7.out.c0
         have hh3 := H2_7.out.c1
         have hh4 := H3_7.out.c0
         have hh5 := H3_7.out.c1
         clear hb)
      | (go_at_call 20
         with_reducible refine (HP4.out _).mono ?_
         rintro e W8 ⟨rfl, hb⟩
         have HBL_8 := Lib.hid (HBL_7.out.trans (hb.mono HBL_7.out.size))
         have H1_8 := Lib.hid (H1_7.out.keep hb)
         have H2_8 := Lib.hid (H2_7.out.keep hb)
         have H3_8 := Lib.hid (H3_7.out.keep hb)
         have hi0 := H1_8.out.c0
         have hi1 := H1_8.out.c1
         have hi2 := H2_8.out.c0
         have hi3 := H2_8.out.c1
         have hi4 := H3_8.out.c0
         have hi5 := H3_8.out.c1
         clear hb))
    go_wp2
    go_ret2
    exact ⟨rfl, HBL_8.out⟩
end Slo
end Go.Proofs.Ytjhmmllifecfkaa
