/- The device's small calls: Down, step, has, Len, Load, New. -/
import Derived.Test.YthfkbfbchoekjaaPmMem
namespace Go.Proofs.Ythfkbfbchoekjaa
open Go.RowKit Go.MapKept
namespace Pm

section
variable {w w' : World} {a : Nat} {D D' : Dev}
theorem lt_of_some {o : Obj} {k : Nat} (h : w.heap[k]? = some o) : k < w.heap.size := (Array.getElem?_eq_some_iff.1 h).1
theorem blk_cell {g : Nat} {t : TypeId} {cs : Array Value} (h : w.heap[g]? = some (.cells cs t (0, 0))) (i : Nat) : w.cell? ⟨g, i, none⟩ = cs[i]? := cell_of_row w g i cs t (0, 0) h
theorem blk_frozen {g : Nat} {t : TypeId} {cs : Array Value} (h : w.heap[g]? = some (.cells cs t (0, 0))) (i : Nat) : w.frozen? ⟨g, i, none⟩ = false := by simp [World.frozen?, h]
theorem blk_set {g : Nat} {t : TypeId} {cs : Array Value} (h : w.heap[g]? = some (.cells cs t (0, 0))) (i : Nat) (u : Value) :
    (w.setCell ⟨g, i, none⟩ u).heap[g]? = some (.cells (cs.setIfInBounds i u) t (0, 0)) := by simp [World.setCell, Array.getElem?_modify, h]
theorem blk_far {g : Nat} {o : Obj} (h : w.heap[g]? = some o) {p : Addr} (hp : g ≠ p.block) (u : Value) : (w.setCell p u).heap[g]? = some o := (Below.heap_setCell w p u g hp).trans h
theorem blk_alloc {g : Nat} {o : Obj} (h : w.heap[g]? = some o) (o' : Obj) : (w.alloc o').heap[g]? = some o := (Below.heap_alloc w o' g (lt_of_some h)).trans h
theorem blk_ne {g g' : Nat} {t t' : TypeId} {cs cs' : Array Value} (h : w.heap[g]? = some (.cells cs t (0, 0))) (h' : w.heap[g']? = some (.cells cs' t' (0, 0))) (hne : t ≠ t') : g ≠ g' := by
  rintro rfl
  rw [h] at h'
  injection h' with h'
  injection h' with _ ht
  exact hne ht
theorem blk_map {g g' : Nat} {t : TypeId} {cs : Array Value} {es : Array MapEntry} {c : Nat} (h : w.heap[g]? = some (.cells cs t (0, 0))) (h' : w.heap[g']? = some (.map es c)) : g ≠ g' := by
  rintro rfl
  rw [h] at h'
  injection h' with h'
  cases h'

theorem Rep.cell (h : Rep w a D) (i : Nat) : w.cell? ⟨a, i, none⟩ = D.cells[i]? := blk_cell h.dev i
theorem Rep.frozen (h : Rep w a D) (i : Nat) : w.frozen? ⟨a, i, none⟩ = false := blk_frozen h.dev i
theorem Rep.c0 (h : Rep w a D) : w.cell? ⟨a, 0, none⟩ = some (.int .i64 (D.steps : Int)) := h.cell 0
theorem Rep.c1 (h : Rep w a D) : w.cell? ⟨a, 1, none⟩ = some (.int .i64 (D.stores : Int)) := h.cell 1
theorem Rep.c2 (h : Rep w a D) : w.cell? ⟨a, 2, none⟩ = some (.bool D.armed) := h.cell 2
theorem Rep.c3 (h : Rep w a D) : w.cell? ⟨a, 3, none⟩ = some (.int .i64 (D.left : Int)) := h.cell 3
theorem Rep.c4 (h : Rep w a D) : w.cell? ⟨a, 4, none⟩ = some (.slice (some ⟨D.wb, 0, none⟩) D.words.length D.words.length) := h.cell 4
theorem Rep.c5 (h : Rep w a D) : w.cell? ⟨a, 5, none⟩ = some (.map (some D.mb)) := h.cell 5
theorem Rep.c6 (h : Rep w a D) : w.cell? ⟨a, 6, none⟩ = some (.slice D.mka D.marked.length D.mkc) := h.cell 6
theorem Rep.lt (h : Rep w a D) : a < w.heap.size := lt_of_some h.dev
theorem Rep.ne_wb (h : Rep w a D) : a ≠ D.wb := blk_ne h.dev h.wds (by decide)
theorem Rep.ne_mb (h : Rep w a D) : a ≠ D.mb := blk_map h.dev h.map
theorem Rep.wb_mb (h : Rep w a D) : D.wb ≠ D.mb := blk_map h.wds h.map
theorem Rep.ne_ent (h : Rep w a D) {e : Ent} (he : e ∈ D.ents) : a ≠ e.blk := by
  obtain ⟨cs, hcs, _⟩ := h.ent e he
  exact blk_ne h.dev hcs (by decide)
theorem Rep.ne_mkv (h : Rep w a D) : D.mkv.ownBlock ≠ some a := by
  rcases h.mrk.2 with ⟨e, _⟩ | ⟨g, cap, cur, e, _, hg, _⟩
  · rw [e]; simp [Value.ownBlock]
  · rw [e]
    simp only [Value.ownBlock, ne_eq, Option.some.injEq]
    exact blk_ne hg h.dev (by decide)

theorem Rep.mb_mkv (h : Rep w a D) : D.mkv.ownBlock ≠ some D.mb := by
  rcases h.mrk.2 with ⟨e, _⟩ | ⟨g, cap, cur, e, _, hg, _⟩
  · rw [e]; simp [Value.ownBlock]
  · rw [e]
    simp only [Value.ownBlock, ne_eq, Option.some.injEq]
    exact blk_map hg h.map
theorem Rep.u64_mkv (h : Rep w a D) {k : Nat} {cs : Array Value} (hk : w.heap[k]? = some (.cells cs 39 (0, 0))) : D.mkv.ownBlock ≠ some k := by
  rcases h.mrk.2 with ⟨e, _⟩ | ⟨g, cap, cur, e, _, hg, _⟩
  · rw [e]; simp [Value.ownBlock]
  · rw [e]
    simp only [Value.ownBlock, ne_eq, Option.some.injEq]
    exact blk_ne hg hk (by decide)

/-- all blocks of the device lie in the heap -/
theorem Rep.foot_lt (h : Rep w a D) {k : Nat} (hk : Foot a D k) : k < w.heap.size := by
  rcases hk with rfl | rfl | rfl | hk | hk
  · exact lt_of_some h.dev
  · exact lt_of_some h.wds
  · exact lt_of_some h.map
  · obtain ⟨e, he, rfl⟩ := List.mem_map.1 hk
    obtain ⟨cs, hcs, _⟩ := h.ent e he
    exact lt_of_some hcs
  · rcases h.mrk.2 with ⟨e, _⟩ | ⟨g, cap, cur, e, _, hg, _⟩
    · rw [e] at hk; simp [Value.ownBlock] at hk
    · rw [e] at hk
      simp only [Value.ownBlock, Option.some.injEq] at hk
      subst hk
      exact lt_of_some hg

theorem lies_keep {e : Ent} (h : e.lies w) (hk : w'.heap[e.blk]? = w.heap[e.blk]?) : e.lies w' := by
  obtain ⟨cs, hcs, r⟩ := h
  exact ⟨cs, hk.trans hcs, r⟩
theorem row_keep {base : Nat} {e : TypeId} {size n : Nat} {v : Value} {xs : List Value} (h : w.ownsRow base e size v n xs) (hk : ∀ g, v.ownBlock = some g → w'.heap[g]? = w.heap[g]?) : w'.ownsRow base e size v n xs := by
  refine ⟨h.1, ?_⟩
  rcases h.2 with h2 | ⟨g, cap, cur, e, hb, hg, r⟩
  · exact .inl h2
  · exact .inr ⟨g, cap, cur, e, hb, (hk g (by rw [e]; rfl)).trans hg, r⟩

/-- a world in which the device's blocks are as they were -/
theorem Rep.keep (h : Rep w a D) (hk : ∀ k, Foot a D k → w'.heap[k]? = w.heap[k]?) : Rep w' a D := {
  dev := (hk _ (.inl rfl)).trans h.dev
  wds := (hk _ (.inr (.inl rfl))).trans h.wds
  map := (hk _ (.inr (.inr (.inl rfl)))).trans h.map
  ent := fun e he => lies_keep (h.ent e he) (hk _ (.inr (.inr (.inr (.inl (List.mem_map_of_mem he))))))
  mrk := row_keep h.mrk (fun _ hg => hk _ (.inr (.inr (.inr (.inr hg)))))
  nodup := h.nodup
  keys := h.keys
  stamp := h.stamp }

/-- the device's own cells alone have turned -/
theorem Rep.turn (h : Rep w a D) (hd : w'.heap[a]? = some (.cells D'.cells 70 (0, 0))) (hk : ∀ k, k < w.heap.size → k ≠ a → w'.heap[k]? = w.heap[k]?)
    (e1 : D'.words = D.words) (e2 : D'.ents = D.ents) (e3 : D'.marked = D.marked) (e4 : D'.wb = D.wb) (e5 : D'.mb = D.mb) (e6 : D'.clock = D.clock) (e7 : D'.mkv = D.mkv) : Rep w' a D' := {
  dev := hd
  wds := by rw [e4, e1, hk _ (lt_of_some h.wds) h.ne_wb.symm]; exact h.wds
  map := by rw [e5, e2, e6, hk _ (lt_of_some h.map) h.ne_mb.symm]; exact h.map
  ent := fun e he => by
    rw [e2] at he
    exact lies_keep (h.ent e he) (hk _ (h.foot_lt (.inr (.inr (.inr (.inl (List.mem_map_of_mem he)))))) (h.ne_ent he).symm)
  mrk := by
    rw [e7, e3]
    exact row_keep h.mrk (fun _ hg => hk _ (h.foot_lt (.inr (.inr (.inr (.inr hg))))) (fun e => h.ne_mkv (by rw [hg, e])))
  nodup := by rw [e4, e2]; exact h.nodup
  keys := by rw [e2]; exact h.keys
  stamp := by rw [e2, e6]; exact h.stamp }
end

def Dev.down (D : Dev) : Bool := D.armed && D.left == 0
def Dev.stepped (D : Dev) : Dev := { D with steps := D.steps + 1, left := if D.armed then D.left - 1 else D.left }

theorem ret_bool {a b : Bool} (h : a = b) : Ending.returned (.bool a) = .returned (.bool b) := by rw [h]
theorem ret_int {k : IntKind} {a b : Int} (h : a = b) : Ending.returned (.int k a) = .returned (.int k b) := by rw [h]

section
variable {w : World} {a : Nat} {D : Dev}
theorem down_any (h : Rep w a D) : Calls Try.prog 54 #[.pointer (some ⟨a, 0, none⟩)] w fun e w' => e = .returned (.bool D.down) ∧ w = w' := by
  have c2 := h.cell 2
  have c3 := h.cell 3
  simp only [Dev.cells] at c2 c3
  unfold Dev.down
  cases hA : D.armed
  · rw [hA] at c2
    clear hA
    go_enter Try.func54, Try.ntmps54
    go_wp2
    go_ret
    exact ⟨rfl, rfl⟩
  · rw [hA] at c2
    clear hA
    go_enter Try.func54, Try.ntmps54
    go_wp2
    go_ret
    exact ⟨ret_bool (by rw [Bool.eq_iff_iff]; simp), rfl⟩

theorem step_no (h : Rep w a D) (hd : D.down = true) : Calls Try.prog 33 #[.pointer (some ⟨a, 0, none⟩)] w fun e w' => e = .returned (.bool false) ∧ w = w' := by
  have hc := down_any h
  rw [hd] at hc
  have H := Lib.hid hc
  clear hc hd
  go_enter Try.func33, Try.ntmps33
  go_wp2_with (go_at_call 54; refine H.out.mono ?_; rintro e w' ⟨rfl, rfl⟩)
  go_ret
  exact ⟨rfl, rfl⟩

theorem step_yes (h : Rep w a D) (hd : D.down = false) (hs : D.steps < 4611686018427387904) (hl : D.left < 4611686018427387904) : Calls Try.prog 33 #[.pointer (some ⟨a, 0, none⟩)] w fun e w' =>
    e = .returned (.bool true) ∧ Rep w' a D.stepped ∧ Off (· = a) w w' ∧ w'.heap.size = w.heap.size := by
  have hc := down_any h
  rw [hd] at hc
  have H := Lib.hid hc
  clear hc
  have c0 := h.cell 0
  have c2 := h.cell 2
  have c3 := h.cell 3
  have f0 := h.frozen 0
  have f3 := h.frozen 3
  simp only [Dev.cells] at c0 c2 c3
  have hR := Lib.hid h
  clear h
  cases hA : D.armed
  · rw [hA] at c2
    have HA := Lib.hid hA
    clear hA hd
    go_enter Try.func33, Try.ntmps33
    go_wp2_with (go_at_call 54; refine H.out.mono ?_; rintro e w' ⟨rfl, rfl⟩)
    go_ret
    have h := hR.out
    refine ⟨rfl, h.turn (D' := D.stepped) ?_ (fun k hk hne => Below.heap_setCell _ _ _ _ hne) rfl rfl rfl rfl rfl rfl rfl, (Off.refl (· = a) w).setCell (fun _ => rfl) _, by simp [World.setCell]⟩
    have := blk_set h.dev 0 (.int .i64 ((D.steps : Int) + 1))
    rw [this]
    simp [Dev.cells, Dev.stepped, HA.out]
  · rw [hA] at c2
    have HA := Lib.hid hA
    have hl0 : 0 < D.left := by
      simp only [Dev.down, hA, Bool.true_and, beq_eq_false_iff_ne] at hd
      omega
    clear hA hd
    go_enter Try.func33, Try.ntmps33
    go_wp2_with (go_at_call 54; refine H.out.mono ?_; rintro e w' ⟨rfl, rfl⟩)
    go_ret
    have h := hR.out
    refine ⟨rfl, h.turn (D' := D.stepped) ?_ (fun k hk hne => (Below.heap_setCell _ _ _ _ hne).trans (Below.heap_setCell _ _ _ _ hne)) rfl rfl rfl rfl rfl rfl rfl, ((Off.refl (· = a) w).setCell (fun _ => rfl) _).setCell (fun _ => rfl) _, by simp [World.setCell]⟩
    rw [blk_set (blk_set h.dev 3 _) 0 _]
    simp [Dev.cells, Dev.stepped, HA.out]
    omega

def Dev.hasB (D : Dev) (i : Int) : Bool := decide (0 ≤ i) && decide (i < (D.words.length : Int))

theorem has_any (h : Rep w a D) (i : Int) : Calls Try.prog 32 #[.pointer (some ⟨a, 0, none⟩), .int .i64 i] w fun e w' => e = .returned (.bool (D.hasB i)) ∧ w = w' := by
  have c4 := h.cell 4
  simp only [Dev.cells] at c4
  unfold Dev.hasB
  by_cases h0 : 0 ≤ i
  · go_enter Try.func32, Try.ntmps32
    go_wp2
    go_ret
    exact ⟨ret_bool (by simp [h0]), rfl⟩
  · go_enter Try.func32, Try.ntmps32
    go_wp2
    go_ret
    exact ⟨ret_bool (by rw [decide_eq_false (by omega)]; rfl), rfl⟩

theorem len_any (h : Rep w a D) : Calls Try.prog 36 #[.pointer (some ⟨a, 0, none⟩)] w fun e w' => e = .returned (.int .i64 (D.words.length : Int)) ∧ w = w' := by
  have c4 := h.cell 4
  simp only [Dev.cells] at c4
  go_enter Try.func36, Try.ntmps36
  go_wp2
  go_ret
  exact ⟨rfl, rfl⟩

theorem has_yes {i : Int} (h0 : 0 ≤ i) (h1 : i < (D.words.length : Int)) : D.hasB i = true := by simp [Dev.hasB, h0, h1]
theorem has_no {i : Int} (h : i < 0 ∨ (D.words.length : Int) ≤ i) : D.hasB i = false := by
  simp only [Dev.hasB, Bool.and_eq_false_iff, decide_eq_false_iff_not]; omega

theorem Rep.word (h : Rep w a D) (i : Nat) : w.cell? ⟨D.wb, i, none⟩ = (D.words[i]?).map (Value.int .u64) := by
  rw [blk_cell h.wds i]; simp [u64s]

theorem load_no (h : Rep w a D) (i : Int) (hi : D.hasB i = false) : Calls Try.prog 34 #[.pointer (some ⟨a, 0, none⟩), .int .i64 i] w fun e w' => e = .returned (.int .u64 0) ∧ w = w' := by
  have hc := has_any h i
  rw [hi] at hc
  have H := Lib.hid hc
  clear hc hi h
  go_enter Try.func34, Try.ntmps34
  go_wp2_with (go_at_call 32; refine H.out.mono ?_; rintro e w' ⟨rfl, rfl⟩)
  go_ret
  exact ⟨rfl, rfl⟩

theorem load_yes (h : Rep w a D) (i : Nat) (hi : i < D.words.length) : Calls Try.prog 34 #[.pointer (some ⟨a, 0, none⟩), .int .i64 (i : Int)] w fun e w' => e = .returned (.int .u64 D.words[i]) ∧ w = w' := by
  have hc := has_any h (i : Int)
  rw [has_yes (by omega) (by omega)] at hc
  have c4 := h.cell 4
  have cw := h.word i
  rw [List.getElem?_eq_getElem hi] at cw
  simp only [Dev.cells] at c4
  have H := Lib.hid hc
  clear hc h
  go_enter Try.func34, Try.ntmps34
  go_wp2_with (go_at_call 32; refine H.out.mono ?_; rintro e w' ⟨rfl, rfl⟩)
  go_ret
  exact ⟨rfl, rfl⟩

/-- a new device of n noughts -/
def Dev.fresh (n g : Nat) : Dev := { steps := 0, stores := 0, armed := false, left := 0, words := List.replicate n 0, ents := [], marked := [], wb := g, mb := g + 1, clock := 0, mka := none, mkc := 0 }

theorem u64_info : (Try.prog.info? 39).map (fun i => (i.zero, i.size, i.bytes)) = some (some (.int .u64 0), 1, 8) := by kernel_rfl

theorem rep_fresh (w : World) (n : Nat) : Rep (((w.alloc (.cells (madeCells #[.int .u64 0] n) 39)).alloc (.map #[] 0)).alloc (.cells (Dev.fresh n w.heap.size).cells 70)) (w.heap.size + 2) (Dev.fresh n w.heap.size) := {
  dev := by
    have := (heap_alloc ((w.alloc (.cells (madeCells #[.int .u64 0] n) 39)).alloc (.map #[] 0)) (.cells (Dev.fresh n w.heap.size).cells 70)).1
    simpa using this
  wds := by
    refine blk_alloc (blk_alloc ?_ _) _
    rw [show (Dev.fresh n w.heap.size).wb = w.heap.size from rfl, (heap_alloc w _).1]
    congr 2
    apply Array.toList_inj.1
    rw [toList_madeCells_one]
    simp [Dev.fresh, u64s]
  map := by
    refine blk_alloc ?_ _
    have := (heap_alloc (w.alloc (.cells (madeCells #[.int .u64 0] n) 39)) (.map #[] 0)).1
    rw [World.size_alloc] at this
    exact this
  ent := by simp [Dev.fresh]
  mrk := ⟨by simp [Dev.fresh, i64s], .inl ⟨rfl, rfl⟩⟩
  nodup := by simp [Dev.fresh]
  keys := by simp [Dev.fresh]
  stamp := by simp [Dev.fresh, Stamp] }

theorem run_new (m : Nat) (n : Int) (hn : n = (m : Int)) (hm : m ≤ 4194304) (W : World) : (Instr.makeSlice 25 (.int .i64 n) (.int .i64 n)).run Try.prog W = .ok (.slice (some ⟨W.heap.size, 0, none⟩) m m) (W.alloc (.cells (madeCells #[.int .u64 0] m) 39)) := by
  obtain ⟨i0, hi0, hz0, hz1, hz2⟩ := info_parts u64_info
  subst hn
  have := run_make (P := Try.prog) W 25 39 i0 _ Try.underlying25 hi0 hz0 .i64 .i64 (m : Int) (m : Int) (by omega) (by omega) (by rw [hz2]; omega) (by omega)
  rw [hz1] at this
  simpa [Value.cells] using this

theorem own_any (w : World) (m g : Nat) : Calls Try.prog 31 #[.slice (some ⟨g, 0, none⟩) m m] w fun e w' => e = .returned (.pointer (some ⟨w.heap.size + 1, 0, none⟩)) ∧
    w' = (w.alloc (.map #[] 0)).alloc (.cells #[.int .i64 0, .int .i64 0, .bool false, .int .i64 0, .slice (some ⟨g, 0, none⟩) m m, .map (some w.heap.size), .slice none 0 0] 70) := by
  have hmm := @run_makeMap Try.prog
  go_enter Try.func31, Try.ntmps31
  go_wp2
  go_ret
  exact ⟨rfl, rfl⟩

theorem fresh_cells (m g : Nat) : (Dev.fresh m g).cells = #[.int .i64 0, .int .i64 0, .bool false, .int .i64 0, .slice (some ⟨g, 0, none⟩) m m, .map (some (g + 1)), .slice none 0 0] := by simp [Dev.cells, Dev.fresh]

theorem new_any (w : World) (n : Int) (m : Nat) (hm : (m : Int) = min (max n 0) 4194304) : Calls Try.prog 14 #[.int .i64 n] w fun e w' =>
    e = .returned (.pointer (some ⟨w.heap.size + 2, 0, none⟩)) ∧ Rep w' (w.heap.size + 2) (Dev.fresh m w.heap.size) ∧ Below w.heap.size w w' ∧ w'.heap.size = w.heap.size + 3 := by
  have hrep0 := rep_fresh w m
  rw [fresh_cells] at hrep0
  have hrep := Lib.hid hrep0
  clear hrep0
  have hbel : Below w.heap.size w (((w.alloc (.cells (madeCells #[.int .u64 0] m) 39)).alloc (.map #[] 0)).alloc (.cells (Dev.fresh m w.heap.size).cells 70)) :=
    (((Below.refl _ _).alloc (Nat.le_refl _) _).alloc (by simp) _).alloc (by simp; omega) _
  have hown := own_any (w.alloc (.cells (madeCells #[.int .u64 0] m) 39)) m w.heap.size
  rw [World.size_alloc] at hown
  have HO := Lib.hid hown
  rw [fresh_cells] at hbel
  have HB := Lib.hid hbel
  clear hown hbel
  rcases Int.lt_or_le n 0 with hn | hn
  · have hmk := run_new m 0 (by omega) (by omega)
    clear hm
    go_enter Try.func14, Try.ntmps14
    go_wp2_with (go_at_call 31; refine HO.out.mono ?_; rintro e w' ⟨rfl, rfl⟩)
    go_ret
    exact ⟨rfl, hrep.out, HB.out, by simp⟩
  · rcases Int.lt_or_le 4194304 n with hn2 | hn2
    · have hmk := run_new m 4194304 (by omega) (by omega)
      clear hm
      go_enter Try.func14, Try.ntmps14
      go_wp2_with (go_at_call 31; refine HO.out.mono ?_; rintro e w' ⟨rfl, rfl⟩)
      go_ret
      exact ⟨rfl, hrep.out, HB.out, by simp⟩
    · have hmk := run_new m n (by omega) (by omega)
      clear hm
      go_enter Try.func14, Try.ntmps14
      go_wp2_with (go_at_call 31; refine HO.out.mono ?_; rintro e w' ⟨rfl, rfl⟩)
      go_ret
      exact ⟨rfl, hrep.out, HB.out, by simp⟩
end
end Pm
end Go.Proofs.Ythfkbfbchoekjaa
