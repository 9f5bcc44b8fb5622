/- A region that draws, walked by its states: which operations have come up, and what holds then. A struct of two cells of the call's own. -/
import Derived.Test.YtjhmmllifecfkaaLinMem
namespace Go.Proofs.Ytjhmmllifecfkaa
open Go.RowKit Go.MapKept
namespace Lin

section
variable {P : Program} {ops : Array Oper} {Q : Exit → Act → World → Prop} {md : Region.Mode} {S : World → Prop}

/-- a region by states: in state s the operations L s have come up, n s are left ahead of the last m, rdy s may come up, and I holds -/
theorem any_states {σ : Type} (L : σ → Array Bool) (n : σ → Nat) (rdy : σ → List Nat) (I : σ → Act → World → Prop) (m : Nat)
    (ready : ∀ s a w, I s a w → n s ≠ 0 → Region.ready md ops (L s) = rdy s ∧ rdy s ≠ [])
    (step : ∀ s a w, I s a w → n s ≠ 0 → ∀ i ∈ rdy s, wpOp P ops Q i (fun a' w' => ∃ s', L s' = (L s).setIfInBounds i true ∧ n s = n s' + 1 ∧ S w' ∧ I s' a' w') a w)
    (last : ∀ s a w, I s a w → n s = 0 → wpAnyH P md ops Q S m (L s) a w) :
    ∀ k s a w, n s = k → I s a w → wpAnyH P md ops Q S (k + m) (L s) a w := by
  intro k
  induction k with
  | zero =>
    intro s a w hn hI
    rw [Nat.zero_add]
    exact last s a w hI hn
  | succ k ih =>
    intro s a w hn hI
    have h0 : n s ≠ 0 := by omega
    obtain ⟨hr, hne⟩ := ready s a w hI h0
    rw [show k + 1 + m = (k + m) + 1 by omega]
    refine wpAnyH_all hr hne (fun i hi => wpOp_mono (fun a' w' h => ?_) (step s a w hI h0 i hi))
    obtain ⟨s', hL, hn', hS, hI'⟩ := h
    exact ⟨hS, hL ▸ ih s' a' w' (by omega) hI'⟩

/-- one operation that comes up; the way back is hidden -/
theorem op_step {i : Nat} {o : Oper} {K : Act → World → Prop} {a : Act} {w : World} (ho : ops[i]? = some o)
    (h : ∀ K' : Act → World → Prop, Hid (∀ a w, K a w → K' a w) → if Region.wanted o (yielded ops a.tmps) = true then Oper.wp P o a w K' Q else K' (a.put o.dst undef) w) : wpOp P ops Q i K a w :=
  wpOp_step ho (fun K' hK => h K' (Lib.hid hK))
end

/-- two cells of the call's own in block b: an int, a word -/
structure Fw (w : World) (b : Nat) (n : Int) (v : Nat) : Prop where
  lt : b < w.heap.size
  c0 : w.cell? ⟨b, 0, none⟩ = some (.int .i64 n)
  c1 : w.cell? ⟨b, 1, none⟩ = some (.int .u64 (v : Int))
  f : ∀ o, w.frozen? ⟨b, o, none⟩ = false
theorem Fw.keep {w w' : World} {b v : Nat} {n : Int} (h : Fw w b n v) (hb : Below w.heap.size w w') : Fw w' b n v :=
  ⟨Nat.lt_of_lt_of_le h.lt hb.size, (hb.cell (p := ⟨b, 0, none⟩) h.lt).trans h.c0, (hb.cell (p := ⟨b, 1, none⟩) h.lt).trans h.c1, fun o => (hb.frozen (p := ⟨b, o, none⟩) h.lt).trans (h.f o)⟩
theorem Fw.drew {w : World} {b v : Nat} {n : Int} (h : Fw w b n v) : Fw w.drew b n v := ⟨h.lt, h.c0, h.c1, h.f⟩
theorem fw_new (w : World) (n : Int) (v : Nat) (t : TypeId) : Fw (w.alloc (.cells #[.int .i64 n, .int .u64 (v : Int)] t)) w.heap.size n v :=
  ⟨by simp, World.cell?_alloc_mark w _ t _ 0, World.cell?_alloc_mark w _ t _ 1, fun o => (World.rowIs_alloc w #[.int .i64 n, .int .u64 (v : Int)] t (fun i => if i = 0 then .int .i64 n else .int .u64 (v : Int)) (fun i hi => by
    have : i < 2 := hi
    match i, this with
    | 0, _ => rfl
    | 1, _ => rfl)).frozen o⟩
theorem Fw.set {w : World} {b v : Nat} {n : Int} (h : Fw w b n v) (m : Int) (u : Nat) : Fw ((w.setCell ⟨b, 0, none⟩ (.int .i64 m)).setCell ⟨b, 1, none⟩ (.int .u64 (u : Int))) b m u :=
  ⟨by simpa using h.lt, by rw [World.cell?_setCell_other _ _ _ _ (by simp)]; exact World.cell?_setCell_same _ _ _ h.c0, World.cell?_setCell_same _ _ _ ((World.cell?_setCell_other _ _ _ _ (by simp)).trans h.c1), fun o => by rw [World.frozen?_setCell, World.frozen?_setCell]; exact h.f o⟩
theorem Fw.other {w : World} {b v d : Nat} {n : Int} (h : Fw w b n v) (hd : b ≠ d) (x y : Value) : Fw ((w.setCell ⟨d, 0, none⟩ x).setCell ⟨d, 1, none⟩ y) b n v :=
  ⟨by simpa using h.lt, (cell_set_other hd _).trans ((cell_set_other hd _).trans h.c0), (cell_set_other hd _).trans ((cell_set_other hd _).trans h.c1), fun o => by rw [World.frozen?_setCell, World.frozen?_setCell]; exact h.f o⟩
theorem Box.other {w : World} {b d : Nat} {n m s : Int} (h : Box w b n m s) (hd : b ≠ d) (x y : Value) : Box ((w.setCell ⟨d, 0, none⟩ x).setCell ⟨d, 1, none⟩ y) b n m s :=
  ⟨by simpa using h.lt, (cell_set_other hd _).trans ((cell_set_other hd _).trans h.c0), (cell_set_other hd _).trans ((cell_set_other hd _).trans h.c1), (cell_set_other hd _).trans ((cell_set_other hd _).trans h.c2)⟩
end Lin
end Go.Proofs.Ytjhmmllifecfkaa
