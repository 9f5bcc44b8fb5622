/- Memory of lines: three ints in a block, a row of words, an append of one word, a bit turned. -/
import Derived.Test.YtamkelcgalfkcaaCrcLine
import Derived.Test.YtamkelcgalfkcaaCrcLives
import Derived.Test.YtamkelcgalfkcaaPackFields
import Derived.Test.YtamkelcgalfkcaaPackLives
import Derived.Lib.Hide
import Derived.Deep.RegionHeld3
import Derived.BigCall
import Derived.ArgAppend
import Derived.RegionTactic
import Derived.ChangeAlike
namespace Go.Proofs.Ytamkelcgalfkcaa
open Go.RowKit Go.MapKept
namespace Lin

section
variable {P : Program} {ops : Array Oper} {Q : Exit → Act → World → Prop} {md : Region.Mode} {S : World → Prop}

/-- operation i of a region that draws is taken: it yields v into slot d -/
theorem take_yes (i d : Nat) (v : Value) {oi : Oper} {fuel : Nat} {listed : Array Bool} {a : Act} {w : World} (hi : ops[i]? = some oi) (hd : oi.dst = some d)
    (hs : Region.noSelect ops = true) (hf : Region.free md ops listed i = true) (hr : (Region.ready md ops listed).contains i = true)
    (hQ : ∀ c a w, Q (.panic c) (Act.put a (some d) v) w → Q (.panic c) a w) (hw : Region.wanted oi (yielded ops a.tmps) = true) (hy : ∀ w, S w → (execOp a.eval oi).run P w = .ok (.value v) w) (hS : S w)
    (h : wpAnyH P md ops Q S fuel (listed.setIfInBounds i true) (a.put (some d) v) w) : wpAnyH P md ops Q S (fuel + 1) listed a w :=
  wpAnyH_take hi hs hf hr (by rw [hd]; exact hQ) (Or.inl ⟨hw, hy⟩) hS (by rw [hd]; exact h)
/-- operation i of a region that draws is left out: its guard says so -/
theorem take_no (i d : Nat) {oi : Oper} {fuel : Nat} {listed : Array Bool} {a : Act} {w : World} (hi : ops[i]? = some oi) (hd : oi.dst = some d)
    (hs : Region.noSelect ops = true) (hf : Region.free md ops listed i = true) (hr : (Region.ready md ops listed).contains i = true)
    (hQ : ∀ c a w, Q (.panic c) (Act.put a (some d) undef) w → Q (.panic c) a w) (hw : Region.wanted oi (yielded ops a.tmps) = false) (hS : S w)
    (h : wpAnyH P md ops Q S fuel (listed.setIfInBounds i true) (a.put (some d) undef) w) : wpAnyH P md ops Q S (fuel + 1) listed a w :=
  wpAnyH_take hi hs hf hr (by rw [hd]; exact hQ) (Or.inr ⟨hw, rfl⟩) hS (by rw [hd]; exact h)
end

/-- three ints lie in block b -/
structure Box (w : World) (b : Nat) (n m s : Int) : Prop where
  lt : b < w.heap.size
  c0 : w.cell? ⟨b, 0, none⟩ = some (.int .i64 n)
  c1 : w.cell? ⟨b, 1, none⟩ = some (.int .i64 m)
  c2 : w.cell? ⟨b, 2, none⟩ = some (.int .i64 s)
theorem Box.keep {w w' : World} {b : Nat} {n m s : Int} (h : Box w b n m s) (hb : Below w.heap.size w w') : Box w' b n m s :=
  ⟨Nat.lt_of_lt_of_le h.lt hb.size, (hb.cell (p := ⟨b, 0, none⟩) h.lt).trans h.c0, (hb.cell (p := ⟨b, 1, none⟩) h.lt).trans h.c1, (hb.cell (p := ⟨b, 2, none⟩) h.lt).trans h.c2⟩
theorem Box.drew {w : World} {b : Nat} {n m s : Int} (h : Box w b n m s) : Box w.drew b n m s := ⟨h.lt, h.c0, h.c1, h.c2⟩
theorem Box.drewN {w : World} {b : Nat} {n m s : Int} (h : Box w b n m s) (k : Nat) : Box (w.drewN k) b n m s := ⟨h.lt, h.c0, h.c1, h.c2⟩
theorem boxed (w : World) (n m s : Int) (t : TypeId) : Box (w.alloc (.cells #[.int .i64 n, .int .i64 m, .int .i64 s] t)) w.heap.size n m s :=
  ⟨by simp, World.cell?_alloc_mark w _ t _ 0, World.cell?_alloc_mark w _ t _ 1, World.cell?_alloc_mark w _ t _ 2⟩
theorem boxed_at {w : World} {k : Nat} (hk : w.heap.size = k) (n m s : Int) (t : TypeId) : Box (w.alloc (.cells #[.int .i64 n, .int .i64 m, .int .i64 s] t)) k n m s := by
  subst hk
  exact boxed w n m s t

/-- three ints of the call's own in block b -/
structure Own (w : World) (b : Nat) (n m s : Int) : Prop where
  box : Box w b n m s
  f : ∀ o, w.frozen? ⟨b, o, none⟩ = false
theorem Own.keep {w w' : World} {b : Nat} {n m s : Int} (h : Own w b n m s) (hb : Below w.heap.size w w') : Own w' b n m s :=
  ⟨h.box.keep hb, fun o => (hb.frozen (p := ⟨b, o, none⟩) h.box.lt).trans (h.f o)⟩
theorem Own.drew {w : World} {b : Nat} {n m s : Int} (h : Own w b n m s) : Own w.drew b n m s := ⟨h.box.drew, h.f⟩
theorem Own.drewN {w : World} {b : Nat} {n m s : Int} (h : Own w b n m s) (k : Nat) : Own (w.drewN k) b n m s := ⟨h.box.drewN k, h.f⟩
theorem owned (w : World) (n m s : Int) (t : TypeId) : Own (w.alloc (.cells #[.int .i64 n, .int .i64 m, .int .i64 s] t)) w.heap.size n m s :=
  ⟨boxed w n m s t, fun o => (World.rowIs_alloc w #[.int .i64 n, .int .i64 m, .int .i64 s] t (fun i => if i = 0 then .int .i64 n else if i = 1 then .int .i64 m else .int .i64 s) (fun i hi => by
    have : i < 3 := hi
    match i, this with
    | 0, _ => rfl
    | 1, _ => rfl
    | 2, _ => rfl)).frozen o⟩

/-- words in a row -/
def rowOf (l : List Nat) (i : Nat) : Value := .int .u64 ((l[i]?.getD 0 : Nat) : Int)

theorem row_keep {w w' : World} {g : Nat} {l : List Nat} (h : w.rowIs g 41 8 (rowOf l)) (hb : Below w.heap.size w w') : w'.rowIs g 41 8 (rowOf l) := h.of_block (hb.block _ h.lt)
theorem cell_set_other {w : World} {p q : Addr} (h : p.block ≠ q.block) (v : Value) : (w.setCell q v).cell? p = w.cell? p := World.cell?_of_block (w := w) (Below.heap_setCell w q v p.block h)
theorem row_crc {w : World} {g : Nat} {l k : List Nat} (h : w.rowIs g 41 8 (rowOf l)) (hk : k.length ≤ 8) (hu : ∀ x ∈ k, x < 18446744073709551616) (e : ∀ j (h : j < k.length), l[j]?.getD 0 = k[j]) : Crc.Wds w (some ⟨g, 0, none⟩) k :=
  ⟨hu, by omega, fun j hj => ⟨g, 0, rfl, h.lt, by
    rw [Nat.zero_add, h.cell (by omega)]
    unfold rowOf
    rw [e j hj]⟩⟩
theorem row_pack {w : World} {g : Nat} {l : List Nat} (h : w.rowIs g 41 8 (rowOf l)) (hk : l.length = 8) (hu : ∀ x ∈ l, x < 18446744073709551616) : Pack.Wds w (some ⟨g, 0, none⟩) l :=
  ⟨hu, by omega, fun j hj => ⟨g, 0, rfl, h.lt, by
    rw [Nat.zero_add, h.cell (by omega)]
    unfold rowOf
    rw [List.getElem?_eq_getElem hj]
    rfl⟩⟩

/-- a row of 8 noughts, made -/
theorem row_made (w : World) : (w.alloc (.cells (madeCells #[.int .u64 0] 8) 41)).rowIs w.heap.size 41 8 (rowOf []) := (World.rowIs_made w (.int .u64 0) 8 41).congr (fun i _ => by simp [rowOf])
theorem row_zero {w : World} {g : Nat} (h : w.rowIs g 41 8 (rowOf [])) : w.rowIs g 41 8 (rowOf [0, 0, 0, 0, 0, 0, 0, 0]) := h.congr (fun i hi => by
  have : i = 0 ∨ i = 1 ∨ i = 2 ∨ i = 3 ∨ i = 4 ∨ i = 5 ∨ i = 6 ∨ i = 7 := by omega
  rcases this with rfl | rfl | rfl | rfl | rfl | rfl | rfl | rfl <;> rfl)

/-- three ints in block b, the words in block g; what was there ahead of N is as it was -/
structure En (w0 : World) (N b g : Nat) (n m s : Int) (l : List Nat) (w : World) : Prop where
  box : Box w b n m s
  row : w.rowIs g 41 8 (rowOf l)
  bg : b ≠ g
  below : Below N w0 w
  nN : N ≤ g
theorem En.keep {w0 w w' : World} {N b g : Nat} {n m s : Int} {l : List Nat} (h : En w0 N b g n m s l w) (hb : Below w.heap.size w w') (hN : N ≤ w.heap.size) : En w0 N b g n m s l w' :=
  ⟨h.box.keep hb, h.row.of_block (hb.block _ h.row.lt), h.bg, h.below.trans (hb.mono hN), h.nN⟩
theorem En.drew {w0 w : World} {N b g : Nat} {n m s : Int} {l : List Nat} (h : En w0 N b g n m s l w) : En w0 N b g n m s l w.drew :=
  ⟨h.box.drew, h.row.drew, h.bg, h.below.drew, h.nN⟩
theorem En.set {w0 w : World} {N b g : Nat} {n m s : Int} {l l' : List Nat} (h : En w0 N b g n m s l w) (i x : Nat) (e : ∀ j, j < 8 → (if j = i then x else l[j]?.getD 0) = l'[j]?.getD 0) : En w0 N b g n m s l' (w.setCell ⟨g, i, none⟩ (.int .u64 (x : Int))) :=
  ⟨⟨by simpa using h.box.lt, (cell_set_other h.bg _).trans h.box.c0, (cell_set_other h.bg _).trans h.box.c1, (cell_set_other h.bg _).trans h.box.c2⟩,
   (h.row.set i (.int .u64 (x : Int))).congr (fun j hj => by
    have := e j hj
    unfold rowOf
    rw [← this]
    split <;> rfl), h.bg, h.below.setCell h.nN _, h.nN⟩

/-- an append whose run is known -/
theorem wpList_append_run {P : Program} {w w' : World} {ops : Array Oper} {rest : List Oper} {o : Oper} {a : Act} {Q : Exit → Act → World → Prop} (hgd : o.guard = none) (s x : Operand) (t : TypeId)
    (ho : o.op = .call { callee := .builtin .append, args := #[s, x], argTypes := #[t, t] }) (v u v' : Value) (hs : a.eval s = v) (hx : a.eval x = u) (hr : (Builtin.append_ #[t, t] o.type #[v, u]).run P w = .ok v' w')
    (h : wpList P ops Q rest (a.put o.dst v') w') : wpList P ops Q (o :: rest) a w := by
  refine wpList_plain hgd fun K hK => ?_
  unfold Oper.wp execOp
  simp only [ho, resolve, invoke, builtin, Sem.run_bind, Sem.run_pure, Result.andThen_ok, List.map_toArray, List.map_cons, List.map_nil, hs, hx, hr]
  exact hK _ _ h

/-- one word behind seven -/
theorem grow8 (W : World) (g : Nat) (l : List Nat) (y : Nat) (hl : l.length = 7) (h : Crc.Wds W (some ⟨g, 0, none⟩) l) (hu : ∀ x ∈ l ++ [y], x < 18446744073709551616) :
    ∃ (G : Option Addr) (gc : Nat) (w' : World), (Builtin.append_ #[25, 25] 25 #[.slice (some ⟨g, 0, none⟩) 7 7, .slice (some ⟨W.heap.size, 0, none⟩) 1 1]).run Try.prog (W.alloc (.cells #[.int .u64 (y : Int)] 41)) = .ok (.slice G 8 gc) w' ∧ Pack.Wds w' G (l ++ [y]) ∧ Below W.heap.size W w' := by
  obtain ⟨i1, hi1, hy⟩ := Option.map_eq_some_iff.1 Pack.u64_info
  injection hy with hy0 hy
  injection hy with hy1 hy2
  have hb := (Below.refl W.heap.size W).alloc (Nat.le_refl _) (.cells #[.int .u64 (y : Int)] 41)
  have h7 : Crc.Wds (W.alloc (.cells #[.int .u64 (y : Int)] 41)) (some ⟨g, 0, none⟩) l := h.keep hb
  obtain ⟨v', w', hr, hown, hgr⟩ := run_append_arg_grows (P := Try.prog) (W.alloc (.cells #[.int .u64 (y : Int)] 41)) 25 25 41 i1 (.int .u64 0) 1 8 Try.underlying25 hi1 hy0 hy1 hy2 rfl (by decide)
    ⟨g, 0, none⟩ 7 7 (Pack.u64s l) (by unfold Pack.u64s; rw [List.length_map, hl]) (fun j u hj => by
      unfold Pack.u64s at hj
      rw [List.getElem?_map] at hj
      rcases Nat.lt_or_ge j l.length with h1 | h1
      · obtain ⟨b, o, e, _, hc⟩ := h7.at' j h1
        injection e with e
        injection e with e1 e2
        subst e1 e2
        rw [List.getElem?_eq_getElem h1] at hj
        rw [Go.WideShapes.add_plain, hc, ← hj]
        rfl
      · rw [List.getElem?_eq_none h1] at hj
        cases hj)
    ⟨W.heap.size, 0, none⟩ 1 1 [.int .u64 (y : Int)] rfl (cell_one_new _ _ _) (by decide) (by decide) (by decide)
  obtain ⟨G, gc, rfl⟩ := Pack.row_slice hown
  refine ⟨G, gc, w', hr, ?_, hb.grown hgr hb.size (fun k hk => by cases hk)⟩
  have e : Pack.u64s l ++ [Value.int .u64 (y : Int)] = Pack.u64s (l ++ [y]) := by unfold Pack.u64s; simp
  rw [e] at hown
  exact Pack.own_wds (l := l ++ [y]) hown hu (by decide)

theorem fds_two (w : World) {n m : Nat} (hn : n < 65536) (hm : m < 65536) : Pack.Fds (w.alloc (.cells #[.int .i64 16, .int .u64 (n : Int), .int .i64 16, .int .u64 (m : Int)] 47)) (some ⟨w.heap.size, 0, none⟩) [⟨16, n⟩, ⟨16, m⟩] :=
  ⟨fun f hf => by
    simp only [List.mem_cons, List.not_mem_nil, or_false] at hf
    rcases hf with rfl | rfl <;> exact ⟨by simp only; omega, by simp only; omega, by simp only; omega⟩, by simp, fun j hj => by
    have : j < 2 := hj
    match j, this with
    | 0, _ => exact ⟨w.heap.size, 0, rfl, by simp, Pack.alloc_cell _ _ _ _, Pack.alloc_cell _ _ _ _⟩
    | 1, _ => exact ⟨w.heap.size, 0, rfl, by simp, Pack.alloc_cell _ _ _ _, Pack.alloc_cell _ _ _ _⟩⟩

theorem nts_two (w : World) : Pack.Nts (w.alloc (.cells #[.int .i64 16, .int .i64 16] 3)) (some ⟨w.heap.size, 0, none⟩) [16, 16] :=
  ⟨fun f hf => by
    obtain rfl : f = 16 := by simpa using hf
    exact ⟨by decide, by decide⟩, by decide, fun j hj => by
    have : j < 2 := hj
    match j, this with
    | 0, _ => exact ⟨w.heap.size, 0, rfl, by simp, Pack.alloc_cell _ _ _ _⟩
    | 1, _ => exact ⟨w.heap.size, 0, rfl, by simp, Pack.alloc_cell _ _ _ _⟩⟩

/-- one bit turned -/
def trn (l : List Nat) (j t : Nat) : List Nat := l.set j (l[j]?.getD 0 ^^^ 2 ^ t)

theorem xor_ne (x t : Nat) : x ^^^ 2 ^ t ≠ x := by
  intro h
  have h1 : (x ^^^ 2 ^ t).testBit t = x.testBit t := by rw [h]
  rw [Nat.testBit_xor, Nat.testBit_two_pow_self] at h1
  cases x.testBit t <;> simp at h1

theorem trn_len (l : List Nat) (j t : Nat) : (trn l j t).length = l.length := by unfold trn; rw [List.length_set]
theorem trn_other {l : List Nat} {j t k : Nat} (hk : k ≠ j) : (trn l j t)[k]?.getD 0 = l[k]?.getD 0 := by
  unfold trn
  rw [List.getElem?_set_ne (fun h => hk h.symm)]
theorem trn_self {l : List Nat} {j t : Nat} (hj : j < l.length) : (trn l j t)[j]?.getD 0 = l[j]?.getD 0 ^^^ 2 ^ t := by
  unfold trn
  rw [List.getElem?_set_self hj]
  rfl
theorem at_u64 {l : List Nat} (h : ∀ x ∈ l, x < 18446744073709551616) (j : Nat) : l[j]?.getD 0 < 18446744073709551616 := by
  rcases Nat.lt_or_ge j l.length with h1 | h1
  · rw [List.getElem?_eq_getElem h1]
    exact h _ (List.getElem_mem _)
  · rw [List.getElem?_eq_none h1]
    decide
theorem set_u64 {l : List Nat} (h : ∀ x ∈ l, x < 18446744073709551616) (j : Nat) {y : Nat} (hy : y < 18446744073709551616) : ∀ x ∈ l.set j y, x < 18446744073709551616 := by
  intro x hx
  rcases List.mem_or_eq_of_mem_set hx with h1 | rfl
  · exact h x h1
  · exact hy
theorem trn_u64 {l : List Nat} (h : ∀ x ∈ l, x < 18446744073709551616) (j : Nat) {t : Nat} (ht : t < 64) : ∀ x ∈ trn l j t, x < 18446744073709551616 := set_u64 h j (Crc.turned_lt (at_u64 h j) ht)

theorem row_set {w : World} {g j y : Nat} {l : List Nat} (hl : l.length = 8) (hj : j < 8) (h : w.rowIs g 41 8 (rowOf l)) : (w.setCell ⟨g, j, none⟩ (.int .u64 (y : Int))).rowIs g 41 8 (rowOf (l.set j y)) :=
  (h.set j (.int .u64 (y : Int))).congr (fun i hi => by
    unfold rowOf
    by_cases e : i = j
    · subst e
      rw [if_pos rfl, List.getElem?_set_self (by omega)]
      rfl
    · rw [if_neg e, List.getElem?_set_ne (fun h => e h.symm)])
theorem row_trn {w : World} {g j t : Nat} {l : List Nat} (hl : l.length = 8) (hj : j < 8) (h : w.rowIs g 41 8 (rowOf l)) : (w.setCell ⟨g, j, none⟩ (.int .u64 ((l[j]?.getD 0 ^^^ 2 ^ t : Nat) : Int))).rowIs g 41 8 (rowOf (trn l j t)) := row_set hl hj h

theorem wrap_pow {t : Nat} (ht : t < 64) : IntKind.wrap .u64 (2 ^ t : Int) = (2 ^ t : Int) := by
  have h2 : 2 ^ t < 18446744073709551616 := Nat.pow_lt_pow_right (n := 64) (by omega) ht
  have h1 : (2 : Int) ^ t = ((2 ^ t : Nat) : Int) := by simp
  rw [h1]
  clear h1
  generalize 2 ^ t = y at *
  rw [IntKind.wrap_u64]
  omega

theorem s32_lt (l : List Nat) : Crc.S32 l < 4294967296 := by
  unfold Crc.S32
  omega
end Lin
end Go.Proofs.Ytamkelcgalfkcaa
