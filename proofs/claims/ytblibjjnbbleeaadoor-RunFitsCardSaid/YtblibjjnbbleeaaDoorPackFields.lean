/- Rows of the call's own; PackFields, walked. -/
import Derived.Test.YtblibjjnbbleeaaDoorPackSame
import Derived.OwnWalk
import Derived.Lib.OwnKind
namespace Go.Proofs.YtblibjjnbbleeaaDoor
open Go.RowKit Go.MapKept
namespace Pack

theorem own_cells {W : World} {B n c : Nat} {e : TypeId} {G : Option Addr} {xs : List Value} (h : W.ownsRow B e 1 (.slice G n c) n xs) (j : Nat) (hj : j < n) : ∃ g, G = some ⟨g, 0, none⟩ ∧ g < W.heap.size ∧ W.cell? ⟨g, 0 + j, none⟩ = xs[j]? := by
  rcases h.2 with ⟨e, h0⟩ | ⟨g, cap, cur, e, _, hh, _, _, _, ht⟩
  · omega
  · injection e with e
    subst e
    refine ⟨g, rfl, (Array.getElem?_eq_some_iff.1 hh).1, ?_⟩
    have := congrArg (·[j]?) ht
    simp only [Nat.mul_one] at this
    rw [List.getElem?_take, if_pos hj] at this
    unfold World.cell?
    rw [hh, Nat.zero_add]
    simp only
    rw [← Array.getElem?_toList]
    exact this

theorem row_slice {B n : Nat} {W : World} {e : TypeId} {s : Nat} {v : Value} {xs : List Value} (h : W.ownsRow B e s v n xs) : ∃ G c, v = .slice G n c := by
  rcases h.2 with ⟨e, h0⟩ | ⟨g, cap, cur, e, _⟩
  · exact ⟨none, 0, by rw [e, h0]⟩
  · exact ⟨_, _, e⟩
theorem row_base_lt {w : World} {B : Nat} {e : TypeId} {s n : Nat} {v : Value} {xs : List Value} (h : w.ownsRow B e s v n xs) {g : Nat} (hg : v.ownBlock = some g) : B ≤ g := (h.lt g hg).1

theorem rows_apart {w : World} {B B' : Nat} {e e' : TypeId} {s s' n n' : Nat} {v v' : Value} {xs xs' : List Value} (h : w.ownsRow B e s v n xs) (g : w.ownsRow B' e' s' v' n' xs') (he : e ≠ e') : v.ownBlock = none ∨ v.ownBlock ≠ v'.ownBlock := by
  cases hv : v.ownBlock with
  | none => exact .inl rfl
  | some k =>
    refine .inr (fun h2 => ?_)
    obtain ⟨c, fz, h3⟩ := Lib.ownsRow_kind h k hv
    obtain ⟨c', fz', h4⟩ := Lib.ownsRow_kind g k h2.symm
    rw [h3] at h4
    injection h4 with h4
    injection h4 with _ h4 _
    exact he h4

def i64s (l : List Int) : List Value := l.map (Value.int .i64)
def u64s (l : List Nat) : List Value := l.map fun x : Nat => Value.int .u64 (x : Int)

theorem own_nts {W : World} {B n c : Nat} {G : Option Addr} {l : List Int} (h : W.ownsRow B 3 1 (.slice G n c) n (i64s l)) (hb : ∀ n ∈ l, -9223372036854775808 ≤ n ∧ n ≤ 9223372036854775807) (hm : n ≤ 9223372036854775807) : Nts W G l := by
  have hl : l.length = n := by
    have := h.1
    simpa [i64s] using this
  refine ⟨hb, by omega, fun j hj => ?_⟩
  obtain ⟨g, e, h1, h2⟩ := own_cells h j (by omega)
  refine ⟨g, 0, e, h1, ?_⟩
  rw [h2, i64s, List.getElem?_map, List.getElem?_eq_getElem hj]
  rfl
theorem own_wds {W : World} {B n c : Nat} {G : Option Addr} {l : List Nat} (h : W.ownsRow B 68 1 (.slice G n c) n (u64s l)) (hb : ∀ x ∈ l, x < 18446744073709551616) (hm : n ≤ 9223372036854775807) : Wds W G l := by
  have hl : l.length = n := by
    have := h.1
    simpa [u64s] using this
  refine ⟨hb, by omega, fun j hj => ?_⟩
  obtain ⟨g, e, h1, h2⟩ := own_cells h j (by omega)
  refine ⟨g, 0, e, h1, ?_⟩
  rw [h2, u64s, List.getElem?_map, List.getElem?_eq_getElem hj]
  rfl

theorem int_info : (Tryd.prog.info? 3).map (fun i => (i.zero, i.size, i.bytes)) = some (some (.int .i64 0), 1, 8) := by kernel_rfl

theorem i64s_step {l : List Fld} {m : Nat} (h : m < l.length) : i64s ((l.take (m + 1)).map Fld.n) = i64s ((l.take m).map Fld.n) ++ [.int .i64 l[m].n] := by
  rw [List.take_succ_eq_append_getElem h]
  simp only [i64s, List.map_append, List.map_cons, List.map_nil]
theorem u64s_step {l : List Fld} {m : Nat} (h : m < l.length) : u64s ((l.take (m + 1)).map Fld.v) = u64s ((l.take m).map Fld.v) ++ [.int .u64 (l[m].v : Int)] := by
  rw [List.take_succ_eq_append_getElem h]
  simp only [u64s, List.map_append, List.map_cons, List.map_nil]

theorem cell_one_at (w : World) (k : Nat) (hk : k = w.heap.size) (x : Value) (t : TypeId) : ∀ j u, [x][j]? = some u → (w.alloc (.cells #[x] t)).cell? ((⟨k, 0, none⟩ : Addr).add j) = some u := by
  subst hk
  exact cell_one_new w x t

theorem grown_cell {w w' : World} {row : Option Nat} (h : w.grownBy w' row) {a : Addr} (ha : a.block < w.heap.size) (hr : some a.block ≠ row) : w'.cell? a = w.cell? a := World.cell?_of_block (w := w) (h.block _ ha hr)

/-- a field's second cell, behind a new block and an append -/
theorem field_cell {wr w3 : World} {row : Option Nat} {x y : Value} {t t' : TypeId} {o : Array Value} (h : ((wr.alloc (.cells #[x, y] t)).alloc (.cells o t')).grownBy w3 row) (hr : ∀ k, row = some k → k < wr.heap.size) : w3.cell? ⟨wr.heap.size, 1, none⟩ = some y := by
  rw [grown_cell h (by simp; omega) (fun e => by have := hr _ e.symm; simp at this)]
  refine (World.cell?_of_block (w := wr.alloc (.cells #[x, y] t)) (Below.heap_alloc _ _ _ (by simp))).trans ?_
  exact alloc_cell _ _ _ _

theorem pk_split_eq {l : List Fld} {x t : Nat} (h : pk 0 0 l = some (x, t)) : split x (l.map Fld.n) = some (l.map Fld.v) := by
  obtain ⟨h1, _, z, rfl, hz, hs⟩ := pk_split h
  simp only [Nat.sub_zero] at hz
  simp only [Nat.pow_zero, Nat.mul_one, Nat.zero_add]
  unfold split
  rw [h1]
  simp only
  rw [if_pos (Nat.div_eq_of_lt hz), hs]

theorem Nts.drewN {w : World} {A : Option Addr} {l : List Int} (h : Nts w A l) (n : Nat) : Nts (w.drewN n) A l := h.keep (below_drewN (Below.refl _ _) n)
theorem Wds.drewN {w : World} {A : Option Addr} {l : List Nat} (h : Wds w A l) (n : Nat) : Wds (w.drewN n) A l := h.keep (below_drewN (Below.refl _ _) n)

section
variable {w : World}
end
end Pack
end Go.Proofs.YtblibjjnbbleeaaDoor
