/- A path with one name more: a copy and a name behind it. -/
import Derived.Test.YtobffegkdoefnaaDoorPatParLaw
namespace Go.Proofs.YtobffegkdoefnaaDoor
open Go.RowKit Go.MapKept Go.Shelf
namespace Pat

theorem row_cap {W : World} {B n c : Nat} {e : TypeId} {s : Nat} {G : Option Addr} {xs : List Value} (h : W.ownsRow B e s (.slice G n c) n xs) : n ≤ c := by
  rcases h.2 with ⟨e, h0⟩ | ⟨g, cap, cur, e, _, _, hc, _⟩
  · omega
  · injection e with _ _ e
    omega
/-- a copy of names, a row of the call's own -/
theorem copy_row {W : World} {A : Option Addr} {l : List ByteArray} (c : Nat) (h : Txs W A l) (hA : A = none → c = 0) (hl : l.length ≤ 1000000) :
    ∃ (G : Option Addr) (gc : Nat) (w' : World), (Builtin.append_ #[22, 22] 22 #[.slice (some ⟨W.heap.size, 0, none⟩) 0 0, .slice A l.length c]).run Tryd.prog (W.alloc (.cells #[] 9)) = .ok (.slice G l.length gc) w' ∧ w'.ownsRow W.heap.size 9 1 (.slice G l.length gc) l.length (strs l) ∧ Below W.heap.size W w' := by
  obtain ⟨i0, hi0, hz0, hz1, hz2⟩ := info_parts str_info
  have hown : (W.alloc (.cells #[] 9)).ownsRow W.heap.size 9 1 (.slice (some ⟨W.heap.size, 0, none⟩) 0 0) 0 [] := World.ownsRow_made W #[] 0 (Nat.le_refl _) (by unfold maxLen; omega) rfl
  have hb := (Below.refl W.heap.size W).alloc (Nat.le_refl _) (.cells #[] 9)
  cases A with
  | none =>
    have hl0 : l = [] := by
      cases l with
      | nil => rfl
      | cons b l =>
        obtain ⟨_, _, e, _⟩ := h.at' 0 (by simp)
        cases e
    subst hl0
    rw [hA rfl]
    exact ⟨_, _, _, run_append_owned_none (P := Tryd.prog) _ W.heap.size 22 22 9 i0 1 Tryd.underlying22 hi0 _ 0 [] hown, hown, hb⟩
  | some ad =>
    obtain ⟨v', w', hr, h2, h3, _, _⟩ := run_append_own_at (P := Tryd.prog) (W.alloc (.cells #[] 9)) W.heap.size 22 22 9 i0 (.string ByteArray.empty) 1 16 Tryd.underlying22 hi0 hz0 hz1 hz2 rfl (by decide) _ 0 [] hown ad l.length c (strs l) (by simp [strs]) (txs_news (h.alloc _)) (strs_one l) (by unfold maxLen; omega) (by omega) (by simp)
    rw [Nat.zero_add, List.nil_append] at h2
    obtain ⟨G, gc, rfl⟩ := row_slice h2
    exact ⟨G, gc, w', hr, h2, hb.grown h3 (by simp) (fun k hk => row_base_lt hown hk)⟩

/-- an append whose run is known -/
theorem wpList_append_run {P : Program} {w w' : World} {ops : Array Oper} {rest : List Oper} {o : Oper} {a : Act} {Q : Exit → Act → World → Prop} (hgd : o.guard = none) (s x : Operand) (t : TypeId)
    (ho : o.op = .call { callee := .builtin .append, args := #[s, x], argTypes := #[t, t] }) (v u v' : Value) (hs : a.eval s = v) (hx : a.eval x = u) (hr : (Builtin.append_ #[t, t] o.type #[v, u]).run P w = .ok v' w')
    (h : wpList P ops Q rest (a.put o.dst v') w') : wpList P ops Q (o :: rest) a w := by
  refine wpList_plain hgd fun K hK => ?_
  unfold Oper.wp execOp
  simp only [ho, resolve, invoke, builtin, Sem.run_bind, Sem.run_pure, Result.andThen_ok, List.map_toArray, List.map_cons, List.map_nil, hs, hx, hr]
  exact hK _ _ h

theorem one_new (w : World) (s : ByteArray) (t : TypeId) : ∀ j u, [Value.string s][j]? = some u → (w.alloc (.cells #[.string s] t)).cell? ((⟨w.heap.size, 0, none⟩ : Addr).add j) = some u := by
  intro j u hj
  match j, hj with
  | 0, hj =>
    simp at hj
    subst hj
    simp [Addr.add]

/-- a path, one with one name more, and another one -/
structure Tri (w : World) (A G O : Option Addr) (l kid other : List ByteArray) : Prop where
  l : Txs w A l
  k : Txs w G kid
  o : Txs w O other
theorem Tri.keep {w w' : World} {A G O : Option Addr} {l kid other : List ByteArray} (h : Tri w A G O l kid other) (hb : Below w.heap.size w w') : Tri w' A G O l kid other :=
  ⟨h.l.keep hb, h.k.keep hb, h.o.keep hb⟩
theorem Tri.drewN {w : World} {A G O : Option Addr} {l kid other : List ByteArray} (h : Tri w A G O l kid other) (n : Nat) : Tri (w.drewN n) A G O l kid other :=
  ⟨h.l.drewN n, h.k.drewN n, h.o.drewN n⟩
theorem before_at (w : World) (A B : Option Addr) (c d n m : Nat) (x y : List ByteArray) (hn : x.length = n) (hm : y.length = m) (hx : Txs w A x) (hy : Txs w B y) :
    Calls Tryd.prog 11 #[.slice A n c, .slice B m d] w fun e w' => e = .returned (.bool (bef x y)) ∧ w' = w := by
  subst hn hm
  exact before_any w A B c d x y hx hy
theorem same_at (w : World) (A B : Option Addr) (c d n m : Nat) (x y : List ByteArray) (hn : x.length = n) (hm : y.length = m) (hx : Txs w A x) (hy : Txs w B y) :
    Calls Tryd.prog 12 #[.slice A n c, .slice B m d] w fun e w' => e = .returned (.bool (decide (x = y))) ∧ ∃ n, w' = w.drewN n := by
  subst hn hm
  exact same_any w A B c d x y hx hy
/-- what whether it is within tells -/
theorem kids_past {l other : List ByteArray} (n : ByteArray) (h : other.take l.length ≠ l) : bef l other = false ∨ (bef l other = true ∧ bef (l ++ [n]) other = true) := by
  by_cases hp : bef l other = true
  · exact .inr ⟨hp, bef_past l other n hp h⟩
  · exact .inl (Bool.eq_false_iff.2 hp)
end Pat
end Go.Proofs.YtobffegkdoefnaaDoor
