/- Texts laid together: LinMem, InoMath, InoMay, InoEncode, LinEqual, InoDecode, InoRef, InoRefEnc, InoRefDec, InoLives, SloMath, SloMay, LinOrd, SloEncode, SloDecode, SloRef. -/
import Derived.Test.YtleehhpodgbomaaGreatDoorCt5
import Derived.Test.YtleehhpodgbomaaGreatDoorCt3
import Derived.Test.YtleehhpodgbomaaGreatDoorCt1
import Derived.Lib.Hide
import Derived.Deep.RegionHeld3
import Derived.BigCall
import Derived.ArgAppend
import Derived.RegionTactic
import Derived.ChangeAlike
import Derived.Test.YtleehhpodgbomaaGreatDoorCt2
import Derived.Test.YtleehhpodgbomaaGreatDoorCt4
/- Memory of lines: three ints in a block, a row of words, an append of one word, a bit turned. -/
namespace Go.Proofs.YtleehhpodgbomaaGreatDoor
open Go.RowKit Go.MapKept
namespace Lin

section
variable {P : Program} {ops : Array Oper} {Q : Exit → Act → World → Prop} {md : Region.Mode} {S : World → Prop}

/-- operation i of a region that draws is taken: it yields v into slot d -/
theorem take_yes (i d : Nat) (v : Value) {oi : Oper} {fuel : Nat} {listed : Array Bool} {a : Act} {w : World} (hi : ops[i]? = some oi) (hd : oi.dst = some d)
    (hs : Region.noSelect ops = true) (hf : Region.free md ops listed i = true) (hr : (Region.ready md ops listed).contains i = true)
    (hQ : ∀ c a w, Q (.panic c) (Act.put a (some d) v) w → Q (.panic c) a w) (hw : Region.wanted oi (yielded ops a.tmps) = true) (hy : ∀ w, S w → (execOp a.eval oi).run P w = .ok (.value v) w) (hS : S w)
    (h : wpAnyH P md ops Q S fuel (listed.setIfInBounds i true) (a.put (some d) v) w) : wpAnyH P md ops Q S (fuel + 1) listed a w :=
  wpAnyH_take hi hs hf hr (by rw [hd]; exact hQ) (Or.inl ⟨hw, hy⟩) hS (by rw [hd]; exact h)
/-- operation i of a region that draws is left out: its guard says so -/
theorem take_no (i d : Nat) {oi : Oper} {fuel : Nat} {listed : Array Bool} {a : Act} {w : World} (hi : ops[i]? = some oi) (hd : oi.dst = some d)
    (hs : Region.noSelect ops = true) (hf : Region.free md ops listed i = true) (hr : (Region.ready md ops listed).contains i = true)
    (hQ : ∀ c a w, Q (.panic c) (Act.put a (some d) undef) w → Q (.panic c) a w) (hw : Region.wanted oi (yielded ops a.tmps) = false) (hS : S w)
    (h : wpAnyH P md ops Q S fuel (listed.setIfInBounds i true) (a.put (some d) undef) w) : wpAnyH P md ops Q S (fuel + 1) listed a w :=
  wpAnyH_take hi hs hf hr (by rw [hd]; exact hQ) (Or.inr ⟨hw, rfl⟩) hS (by rw [hd]; exact h)
end

/-- three ints lie in block b -/
structure Box (w : World) (b : Nat) (n m s : Int) : Prop where
  lt : b < w.heap.size
  c0 : w.cell? ⟨b, 0, none⟩ = some (.int .i64 n)
  c1 : w.cell? ⟨b, 1, none⟩ = some (.int .i64 m)
  c2 : w.cell? ⟨b, 2, none⟩ = some (.int .i64 s)
theorem Box.keep {w w' : World} {b : Nat} {n m s : Int} (h : Box w b n m s) (hb : Below w.heap.size w w') : Box w' b n m s :=
  ⟨Nat.lt_of_lt_of_le h.lt hb.size, (hb.cell (p := ⟨b, 0, none⟩) h.lt).trans h.c0, (hb.cell (p := ⟨b, 1, none⟩) h.lt).trans h.c1, (hb.cell (p := ⟨b, 2, none⟩) h.lt).trans h.c2⟩
theorem Box.drew {w : World} {b : Nat} {n m s : Int} (h : Box w b n m s) : Box w.drew b n m s := ⟨h.lt, h.c0, h.c1, h.c2⟩
theorem Box.drewN {w : World} {b : Nat} {n m s : Int} (h : Box w b n m s) (k : Nat) : Box (w.drewN k) b n m s := ⟨h.lt, h.c0, h.c1, h.c2⟩
theorem boxed (w : World) (n m s : Int) (t : TypeId) : Box (w.alloc (.cells #[.int .i64 n, .int .i64 m, .int .i64 s] t)) w.heap.size n m s :=
  ⟨by simp, World.cell?_alloc_mark w _ t _ 0, World.cell?_alloc_mark w _ t _ 1, World.cell?_alloc_mark w _ t _ 2⟩
theorem boxed_at {w : World} {k : Nat} (hk : w.heap.size = k) (n m s : Int) (t : TypeId) : Box (w.alloc (.cells #[.int .i64 n, .int .i64 m, .int .i64 s] t)) k n m s := by
  subst hk
  exact boxed w n m s t

/-- three ints of the call's own in block b -/
structure Own (w : World) (b : Nat) (n m s : Int) : Prop where
  box : Box w b n m s
  f : ∀ o, w.frozen? ⟨b, o, none⟩ = false
theorem Own.keep {w w' : World} {b : Nat} {n m s : Int} (h : Own w b n m s) (hb : Below w.heap.size w w') : Own w' b n m s :=
  ⟨h.box.keep hb, fun o => (hb.frozen (p := ⟨b, o, none⟩) h.box.lt).trans (h.f o)⟩
theorem Own.drew {w : World} {b : Nat} {n m s : Int} (h : Own w b n m s) : Own w.drew b n m s := ⟨h.box.drew, h.f⟩
theorem Own.drewN {w : World} {b : Nat} {n m s : Int} (h : Own w b n m s) (k : Nat) : Own (w.drewN k) b n m s := ⟨h.box.drewN k, h.f⟩
theorem owned (w : World) (n m s : Int) (t : TypeId) : Own (w.alloc (.cells #[.int .i64 n, .int .i64 m, .int .i64 s] t)) w.heap.size n m s :=
  ⟨boxed w n m s t, fun o => (World.rowIs_alloc w #[.int .i64 n, .int .i64 m, .int .i64 s] t (fun i => if i = 0 then .int .i64 n else if i = 1 then .int .i64 m else .int .i64 s) (fun i hi => by
    have : i < 3 := hi
    match i, this with
    | 0, _ => rfl
    | 1, _ => rfl
    | 2, _ => rfl)).frozen o⟩

/-- words in a row -/
def rowOf (l : List Nat) (i : Nat) : Value := .int .u64 ((l[i]?.getD 0 : Nat) : Int)

theorem row_keep {w w' : World} {g : Nat} {l : List Nat} (h : w.rowIs g 71 8 (rowOf l)) (hb : Below w.heap.size w w') : w'.rowIs g 71 8 (rowOf l) := h.of_block (hb.block _ h.lt)
theorem cell_set_other {w : World} {p q : Addr} (h : p.block ≠ q.block) (v : Value) : (w.setCell q v).cell? p = w.cell? p := World.cell?_of_block (w := w) (Below.heap_setCell w q v p.block h)
theorem row_crc {w : World} {g : Nat} {l k : List Nat} (h : w.rowIs g 71 8 (rowOf l)) (hk : k.length ≤ 8) (hu : ∀ x ∈ k, x < 18446744073709551616) (e : ∀ j (h : j < k.length), l[j]?.getD 0 = k[j]) : Crc.Wds w (some ⟨g, 0, none⟩) k :=
  ⟨hu, by omega, fun j hj => ⟨g, 0, rfl, h.lt, by
    rw [Nat.zero_add, h.cell (by omega)]
    unfold rowOf
    rw [e j hj]⟩⟩
theorem row_pack {w : World} {g : Nat} {l : List Nat} (h : w.rowIs g 71 8 (rowOf l)) (hk : l.length = 8) (hu : ∀ x ∈ l, x < 18446744073709551616) : Pack.Wds w (some ⟨g, 0, none⟩) l :=
  ⟨hu, by omega, fun j hj => ⟨g, 0, rfl, h.lt, by
    rw [Nat.zero_add, h.cell (by omega)]
    unfold rowOf
    rw [List.getElem?_eq_getElem hj]
    rfl⟩⟩

/-- a row of 8 noughts, made -/
theorem row_made (w : World) : (w.alloc (.cells (madeCells #[.int .u64 0] 8) 71)).rowIs w.heap.size 71 8 (rowOf []) := (World.rowIs_made w (.int .u64 0) 8 71).congr (fun i _ => by simp [rowOf])
theorem row_zero {w : World} {g : Nat} (h : w.rowIs g 71 8 (rowOf [])) : w.rowIs g 71 8 (rowOf [0, 0, 0, 0, 0, 0, 0, 0]) := h.congr (fun i hi => by
  have : i = 0 ∨ i = 1 ∨ i = 2 ∨ i = 3 ∨ i = 4 ∨ i = 5 ∨ i = 6 ∨ i = 7 := by omega
  rcases this with rfl | rfl | rfl | rfl | rfl | rfl | rfl | rfl <;> rfl)

/-- three ints in block b, the words in block g; what was there ahead of N is as it was -/
structure En (w0 : World) (N b g : Nat) (n m s : Int) (l : List Nat) (w : World) : Prop where
  box : Box w b n m s
  row : w.rowIs g 71 8 (rowOf l)
  bg : b ≠ g
  below : Below N w0 w
  nN : N ≤ g
theorem En.keep {w0 w w' : World} {N b g : Nat} {n m s : Int} {l : List Nat} (h : En w0 N b g n m s l w) (hb : Below w.heap.size w w') (hN : N ≤ w.heap.size) : En w0 N b g n m s l w' :=
  ⟨h.box.keep hb, h.row.of_block (hb.block _ h.row.lt), h.bg, h.below.trans (hb.mono hN), h.nN⟩
theorem En.drew {w0 w : World} {N b g : Nat} {n m s : Int} {l : List Nat} (h : En w0 N b g n m s l w) : En w0 N b g n m s l w.drew :=
  ⟨h.box.drew, h.row.drew, h.bg, h.below.drew, h.nN⟩
theorem En.set {w0 w : World} {N b g : Nat} {n m s : Int} {l l' : List Nat} (h : En w0 N b g n m s l w) (i x : Nat) (e : ∀ j, j < 8 → (if j = i then x else l[j]?.getD 0) = l'[j]?.getD 0) : En w0 N b g n m s l' (w.setCell ⟨g, i, none⟩ (.int .u64 (x : Int))) :=
  ⟨⟨by simpa using h.box.lt, (cell_set_other h.bg _).trans h.box.c0, (cell_set_other h.bg _).trans h.box.c1, (cell_set_other h.bg _).trans h.box.c2⟩,
   (h.row.set i (.int .u64 (x : Int))).congr (fun j hj => by
    have := e j hj
    unfold rowOf
    rw [← this]
    split <;> rfl), h.bg, h.below.setCell h.nN _, h.nN⟩

/-- an append whose run is known -/
theorem wpList_append_run {P : Program} {w w' : World} {ops : Array Oper} {rest : List Oper} {o : Oper} {a : Act} {Q : Exit → Act → World → Prop} (hgd : o.guard = none) (s x : Operand) (t : TypeId)
    (ho : o.op = .call { callee := .builtin .append, args := #[s, x], argTypes := #[t, t] }) (v u v' : Value) (hs : a.eval s = v) (hx : a.eval x = u) (hr : (Builtin.append_ #[t, t] o.type #[v, u]).run P w = .ok v' w')
    (h : wpList P ops Q rest (a.put o.dst v') w') : wpList P ops Q (o :: rest) a w := by
  refine wpList_plain hgd fun K hK => ?_
  unfold Oper.wp execOp
  simp only [ho, resolve, invoke, builtin, Sem.run_bind, Sem.run_pure, Result.andThen_ok, List.map_toArray, List.map_cons, List.map_nil, hs, hx, hr]
  exact hK _ _ h

set_option maxRecDepth 100000 in
/-- one word behind seven -/
theorem grow8 (W : World) (g : Nat) (l : List Nat) (y : Nat) (hl : l.length = 7) (h : Crc.Wds W (some ⟨g, 0, none⟩) l) (hu : ∀ x ∈ l ++ [y], x < 18446744073709551616) :
    ∃ (G : Option Addr) (gc : Nat) (w' : World), (Builtin.append_ #[22, 22] 22 #[.slice (some ⟨g, 0, none⟩) 7 7, .slice (some ⟨W.heap.size, 0, none⟩) 1 1]).run Tryz.prog (W.alloc (.cells #[.int .u64 (y : Int)] 71)) = .ok (.slice G 8 gc) w' ∧ Pack.Wds w' G (l ++ [y]) ∧ Below W.heap.size W w' := by
  obtain ⟨i1, hi1, hy⟩ := Option.map_eq_some_iff.1 Pack.u64_info
  injection hy with hy0 hy
  injection hy with hy1 hy2
  have hb := (Below.refl W.heap.size W).alloc (Nat.le_refl _) (.cells #[.int .u64 (y : Int)] 71)
  have h7 : Crc.Wds (W.alloc (.cells #[.int .u64 (y : Int)] 71)) (some ⟨g, 0, none⟩) l := h.keep hb
  obtain ⟨v', w', hr, hown, hgr⟩ := run_append_arg_grows (P := Tryz.prog) (W.alloc (.cells #[.int .u64 (y : Int)] 71)) 22 22 71 i1 (.int .u64 0) 1 8 Tryz.underlying22 hi1 hy0 hy1 hy2 rfl (by decide)
    ⟨g, 0, none⟩ 7 7 (Pack.u64s l) (by unfold Pack.u64s; rw [List.length_map, hl]) (fun j u hj => by
      unfold Pack.u64s at hj
      rw [List.getElem?_map] at hj
      rcases Nat.lt_or_ge j l.length with h1 | h1
      · obtain ⟨b, o, e, _, hc⟩ := h7.at' j h1
        injection e with e
        injection e with e1 e2
        subst e1 e2
        rw [List.getElem?_eq_getElem h1] at hj
        rw [Go.WideShapes.add_plain, hc, ← hj]
        rfl
      · rw [List.getElem?_eq_none h1] at hj
        cases hj)
    ⟨W.heap.size, 0, none⟩ 1 1 [.int .u64 (y : Int)] rfl (cell_one_new _ _ _) (by decide) (by decide) (by decide)
  obtain ⟨G, gc, rfl⟩ := Pack.row_slice hown
  refine ⟨G, gc, w', hr, ?_, hb.grown hgr hb.size (fun k hk => by cases hk)⟩
  have e : Pack.u64s l ++ [Value.int .u64 (y : Int)] = Pack.u64s (l ++ [y]) := by unfold Pack.u64s; simp
  rw [e] at hown
  exact Pack.own_wds (l := l ++ [y]) hown hu (by decide)

theorem fds_two (w : World) {n m : Nat} (hn : n < 65536) (hm : m < 65536) : Pack.Fds (w.alloc (.cells #[.int .i64 16, .int .u64 (n : Int), .int .i64 16, .int .u64 (m : Int)] 126)) (some ⟨w.heap.size, 0, none⟩) [⟨16, n⟩, ⟨16, m⟩] :=
  ⟨fun f hf => by
    simp only [List.mem_cons, List.not_mem_nil, or_false] at hf
    rcases hf with rfl | rfl <;> exact ⟨by simp only; omega, by simp only; omega, by simp only; omega⟩, by simp, fun j hj => by
    have : j < 2 := hj
    match j, this with
    | 0, _ => exact ⟨w.heap.size, 0, rfl, by simp, Pack.alloc_cell _ _ _ _, Pack.alloc_cell _ _ _ _⟩
    | 1, _ => exact ⟨w.heap.size, 0, rfl, by simp, Pack.alloc_cell _ _ _ _, Pack.alloc_cell _ _ _ _⟩⟩

theorem nts_two (w : World) : Pack.Nts (w.alloc (.cells #[.int .i64 16, .int .i64 16] 3)) (some ⟨w.heap.size, 0, none⟩) [16, 16] :=
  ⟨fun f hf => by
    obtain rfl : f = 16 := by simpa using hf
    exact ⟨by decide, by decide⟩, by decide, fun j hj => by
    have : j < 2 := hj
    match j, this with
    | 0, _ => exact ⟨w.heap.size, 0, rfl, by simp, Pack.alloc_cell _ _ _ _⟩
    | 1, _ => exact ⟨w.heap.size, 0, rfl, by simp, Pack.alloc_cell _ _ _ _⟩⟩

/-- one bit turned -/
def trn (l : List Nat) (j t : Nat) : List Nat := l.set j (l[j]?.getD 0 ^^^ 2 ^ t)

theorem xor_ne (x t : Nat) : x ^^^ 2 ^ t ≠ x := by
  intro h
  have h1 : (x ^^^ 2 ^ t).testBit t = x.testBit t := by rw [h]
  rw [Nat.testBit_xor, Nat.testBit_two_pow_self] at h1
  cases x.testBit t <;> simp at h1

theorem trn_len (l : List Nat) (j t : Nat) : (trn l j t).length = l.length := by unfold trn; rw [List.length_set]
theorem trn_other {l : List Nat} {j t k : Nat} (hk : k ≠ j) : (trn l j t)[k]?.getD 0 = l[k]?.getD 0 := by
  unfold trn
  rw [List.getElem?_set_ne (fun h => hk h.symm)]
theorem trn_self {l : List Nat} {j t : Nat} (hj : j < l.length) : (trn l j t)[j]?.getD 0 = l[j]?.getD 0 ^^^ 2 ^ t := by
  unfold trn
  rw [List.getElem?_set_self hj]
  rfl
theorem at_u64 {l : List Nat} (h : ∀ x ∈ l, x < 18446744073709551616) (j : Nat) : l[j]?.getD 0 < 18446744073709551616 := by
  rcases Nat.lt_or_ge j l.length with h1 | h1
  · rw [List.getElem?_eq_getElem h1]
    exact h _ (List.getElem_mem _)
  · rw [List.getElem?_eq_none h1]
    decide
theorem set_u64 {l : List Nat} (h : ∀ x ∈ l, x < 18446744073709551616) (j : Nat) {y : Nat} (hy : y < 18446744073709551616) : ∀ x ∈ l.set j y, x < 18446744073709551616 := by
  intro x hx
  rcases List.mem_or_eq_of_mem_set hx with h1 | rfl
  · exact h x h1
  · exact hy
theorem trn_u64 {l : List Nat} (h : ∀ x ∈ l, x < 18446744073709551616) (j : Nat) {t : Nat} (ht : t < 64) : ∀ x ∈ trn l j t, x < 18446744073709551616 := set_u64 h j (Crc.turned_lt (at_u64 h j) ht)

theorem row_set {w : World} {g j y : Nat} {l : List Nat} (hl : l.length = 8) (hj : j < 8) (h : w.rowIs g 71 8 (rowOf l)) : (w.setCell ⟨g, j, none⟩ (.int .u64 (y : Int))).rowIs g 71 8 (rowOf (l.set j y)) :=
  (h.set j (.int .u64 (y : Int))).congr (fun i hi => by
    unfold rowOf
    by_cases e : i = j
    · subst e
      rw [if_pos rfl, List.getElem?_set_self (by omega)]
      rfl
    · rw [if_neg e, List.getElem?_set_ne (fun h => e h.symm)])
theorem row_trn {w : World} {g j t : Nat} {l : List Nat} (hl : l.length = 8) (hj : j < 8) (h : w.rowIs g 71 8 (rowOf l)) : (w.setCell ⟨g, j, none⟩ (.int .u64 ((l[j]?.getD 0 ^^^ 2 ^ t : Nat) : Int))).rowIs g 71 8 (rowOf (trn l j t)) := row_set hl hj h

theorem wrap_pow {t : Nat} (ht : t < 64) : IntKind.wrap .u64 (2 ^ t : Int) = (2 ^ t : Int) := by
  have h2 : 2 ^ t < 18446744073709551616 := Nat.pow_lt_pow_right (n := 64) (by omega) ht
  have h1 : (2 : Int) ^ t = ((2 ^ t : Nat) : Int) := by simp
  rw [h1]
  clear h1
  generalize 2 ^ t = y at *
  rw [IntKind.wrap_u64]
  omega

theorem s32_lt (l : List Nat) : Crc.S32 l < 4294967296 := by
  unfold Crc.S32
  omega
end Lin
end Go.Proofs.YtleehhpodgbomaaGreatDoor
/- An inode's line as a list of words, whether an inode may be, and whose a list is. -/
namespace Go.Proofs.YtleehhpodgbomaaGreatDoor
open Go.RowKit Go.MapKept
namespace Ino
open Lin

/-- a place of blocks and a size that may be one's that is not free -/
def plc (h s : Int) : Bool := decide ((-1 ≤ h ∧ h ≤ 65533) ∧ (0 ≤ s ∧ s ≤ 268435456) ∧ (h = -1 ↔ s = 0))

/-- it may be -/
def May (k h s : Int) : Prop := (k = 0 ∧ h = -1 ∧ s = 0) ∨ ((k = 1 ∨ k = 2 ∧ s % 64 = 0) ∧ (-1 ≤ h ∧ h ≤ 65533) ∧ (0 ≤ s ∧ s ≤ 268435456) ∧ (h = -1 ↔ s = 0))
instance (k h s : Int) : Decidable (May k h s) := by unfold May; infer_instance
def may (k h s : Int) : Bool := decide (May k h s)

/-- the first word -/
def nums (k p : Nat) : Nat := k + 65536 * p
/-- the words ahead of the sum -/
def front (k p s : Nat) : List Nat := [nums k p, s, 0, 0, 0, 0, 0]
/-- their sum -/
def sum (k p s : Nat) : Nat := Crc.S32 (Crc.wflat (front k p s))
/-- the free one's line -/
def zero : List Nat := [0, 0, 0, 0, 0, 0, 0, 0]
/-- the line of one that isn't free -/
def full (k p s : Nat) : List Nat := [nums k p, s, 0, 0, 0, 0, 0, sum k p s]
/-- the line of an inode whose Head is p less 1 -/
def ln (k p s : Nat) : List Nat := if k = 0 then zero else full k p s

theorem full_len (k p s : Nat) : (full k p s).length = 8 := rfl
theorem front_len (k p s : Nat) : (front k p s).length = 7 := rfl
theorem ln_len (k p s : Nat) : (ln k p s).length = 8 := by
  unfold ln
  split <;> rfl
theorem ln_zero (p s : Nat) : ln 0 p s = zero := rfl
theorem ln_full {k : Nat} (h : k ≠ 0) (p s : Nat) : ln k p s = full k p s := if_neg h

theorem nums_lt {k p : Nat} (hk : k < 65536) (hp : p < 65536) : nums k p < 4294967296 := by unfold nums; omega
theorem sum_lt (k p s : Nat) : sum k p s < 4294967296 := s32_lt _

theorem front_u64 {k p s : Nat} (hk : k < 65536) (hp : p < 65536) (hs : s < 18446744073709551616) : ∀ x ∈ front k p s, x < 18446744073709551616 := by
  intro x hx
  have h1 := nums_lt hk hp
  simp only [front, List.mem_cons, List.not_mem_nil, or_false] at hx
  rcases hx with rfl | rfl | rfl | rfl | rfl | rfl | rfl <;> omega
theorem full_u64 {k p s : Nat} (hk : k < 65536) (hp : p < 65536) (hs : s < 18446744073709551616) : ∀ x ∈ full k p s, x < 18446744073709551616 := by
  intro x hx
  have h1 := nums_lt hk hp
  have h2 := sum_lt k p s
  simp only [full, List.mem_cons, List.not_mem_nil, or_false] at hx
  rcases hx with rfl | rfl | rfl | rfl | rfl | rfl | rfl | rfl <;> omega
theorem zero_u64 : ∀ x ∈ zero, x < 18446744073709551616 := by decide

/-- the numbers' bounds -/
theorem may_lt {k p s : Nat} (h : may k ((p : Int) - 1) s = true) : k < 3 ∧ p < 65535 ∧ s ≤ 268435456 := by
  have h := of_decide_eq_true h
  unfold May at h
  omega
theorem may_free {p s : Nat} (h : may ((0 : Nat) : Int) ((p : Int) - 1) s = true) : p = 0 ∧ s = 0 := by
  have h := of_decide_eq_true h
  unfold May at h
  omega
theorem may_nat {k h s : Int} (e : may k h s = true) : ∃ k' p s' : Nat, k = (k' : Int) ∧ h = (p : Int) - 1 ∧ s = (s' : Int) := by
  have e := of_decide_eq_true e
  unfold May at e
  obtain ⟨k, rfl⟩ := Int.eq_ofNat_of_zero_le (show 0 ≤ k by omega)
  obtain ⟨p, hp⟩ := Int.eq_ofNat_of_zero_le (show 0 ≤ h + 1 by omega)
  obtain ⟨s, rfl⟩ := Int.eq_ofNat_of_zero_le (show 0 ≤ s by omega)
  exact ⟨k, p, s, rfl, by omega, rfl⟩

theorem ln_u64 {k p s : Nat} (h : may k ((p : Int) - 1) s = true) : ∀ x ∈ ln k p s, x < 18446744073709551616 := by
  obtain ⟨h1, h2, h3⟩ := may_lt h
  unfold ln
  split
  · exact zero_u64
  · exact full_u64 (by omega) (by omega) (by omega)

theorem pk_nums {k p : Nat} (hk : k < 65536) (hp : p < 65536) : Pack.pk 0 0 [⟨16, k⟩, ⟨16, p⟩] = some (nums k p, 32) := by
  unfold nums
  simp [Pack.pk, hk, hp]
  omega

theorem split_nums (x : Nat) : Pack.split x [16, 16] = if x < 4294967296 then some [x % 65536, x / 65536 % 65536] else none := by
  have h : Pack.tot 0 [16, 16] = some 32 := by decide
  unfold Pack.split
  rw [h]
  have e : (2 : Nat) ^ 32 = 4294967296 := rfl
  simp only [e]
  by_cases hx : x < 4294967296
  · have : x / 4294967296 = 0 := by omega
    simp [hx, this, Pack.sp]
  · have : ¬ x / 4294967296 = 0 := by omega
    simp [hx, this]

/-- whose it is: the kind, the Head and 1, the size -/
def dec (l : List Nat) : Option (Nat × Nat × Nat) :=
  let x : Nat := l[0]?.getD 0
  let s : Nat := l[1]?.getD 0
  let k : Nat := x % 65536
  let p : Nat := x / 65536
  if l.length = 8 ∧ x < 4294967296 ∧ may k ((p : Int) - 1) s = true ∧ l = ln k p s then some (k, p, s) else none

theorem dec_ln {k p s : Nat} (h : may k ((p : Int) - 1) s = true) : dec (ln k p s) = some (k, p, s) := by
  obtain ⟨h1, h2, h3⟩ := may_lt h
  by_cases hk : k = 0
  · subst hk
    obtain ⟨rfl, rfl⟩ := may_free h
    unfold dec
    exact if_pos ⟨rfl, by decide, h, rfl⟩
  · have h4 := nums_lt (k := k) (p := p) (by omega) (by omega)
    have e1 : nums k p % 65536 = k := by unfold nums; omega
    have e2 : nums k p / 65536 = p := by unfold nums; omega
    have e : (ln k p s)[0]?.getD 0 = nums k p := by rw [ln_full hk]; rfl
    have e' : (ln k p s)[1]?.getD 0 = s := by rw [ln_full hk]; rfl
    unfold dec
    simp only [e, e', e1, e2]
    exact if_pos ⟨ln_len k p s, h4, h, trivial⟩

theorem dec_some {l : List Nat} {k p s : Nat} (h : dec l = some (k, p, s)) : may k ((p : Int) - 1) s = true ∧ l = ln k p s := by
  unfold dec at h
  simp only at h
  split at h
  · rename_i hc
    injection h with h
    injection h with h1 h2
    injection h2 with h2 h3
    subst h1 h2 h3
    exact hc.2.2
  · cases h

/-- what is no line of one that may be -/
theorem dec_none {l : List Nat} (h : ∀ k p s : Nat, may k ((p : Int) - 1) s = true → l ≠ ln k p s) : dec l = none := by
  cases e : dec l with
  | none => rfl
  | some q =>
    obtain ⟨k, p, s⟩ := q
    have := dec_some e
    exact absurd this.2 (h k p s this.1)
end Ino
end Go.Proofs.YtleehhpodgbomaaGreatDoor
/- None, within, placeMay, May, walked. -/
namespace Go.Proofs.YtleehhpodgbomaaGreatDoor
open Go.RowKit Go.MapKept
namespace Ino
open Lin

theorem none_any (w : World) : Calls Tryz.prog 123 #[] w fun r w' => r = .returned (.agg #[.int .i64 0, .int .i64 (-1), .int .i64 0]) ∧ Below w.heap.size w w' := by
  go_enter Tryz.func123, Tryz.ntmps123
  go_wp2
  refine bodyPost_ret (v := .agg #[.int .i64 0, .int .i64 (-1), .int .i64 0]) ?_ rfl ⟨rfl, ?_⟩
  · simp [results, Tryz.results123, go_sem]
  · first
    | exact (Below.refl _ _).alloc (Nat.le_refl _) _
    | exact ((((Below.refl _ _).alloc (Nat.le_refl _) _).setCell (by simp) _).setCell (by simp) _).setCell (by simp) _

theorem within_any (w : World) (n a b : Int) :
    Calls Tryz.prog 152 #[.int .i64 n, .int .i64 a, .int .i64 b] w fun e w' => e = .returned (.bool (decide (a ≤ n ∧ n ≤ b))) ∧ w = w' := by
  go_enter Tryz.func152, Tryz.ntmps152
  go_wp2
  · rename_i h
    go_ret
    exact ⟨by simp [h], rfl⟩
  · rename_i h
    go_ret
    refine ⟨?_, rfl⟩
    have : ¬ a ≤ n := by omega
    simp [this]

set_option maxHeartbeats 1000000 in
theorem place_any (w : World) (k h s : Int) :
    Calls Tryz.prog 146 #[.agg #[.int .i64 k, .int .i64 h, .int .i64 s]] w fun r w' => r = .returned (.bool (plc h s)) ∧ Below w.heap.size w w' := by
  have HB := Lib.hid ((Below.refl w.heap.size w).alloc (Nat.le_refl _) (.cells #[.int .i64 k, .int .i64 h, .int .i64 s] 146))
  have HH := Lib.hid (fun w => within_any w h (-1) 65533)
  have HS := Lib.hid (fun w => within_any w s 0 268435456)
  by_cases h1 : -1 ≤ h ∧ h ≤ 65533
  · by_cases h2 : 0 ≤ s ∧ s ≤ 268435456
    · have HE := Lib.hid (show plc h s = ((h == -1) == (s == 0)) by
        unfold plc
        rw [Bool.eq_iff_iff]
        simp only [decide_eq_true_eq, beq_iff_eq]
        rw [Bool.eq_iff_iff]
        simp only [beq_iff_eq]
        constructor
        · exact fun h => h.2.2
        · exact fun h => ⟨h1, h2, h⟩)
      have H1 := Lib.hid (decide_eq_true h1)
      have H2 := Lib.hid (decide_eq_true h2)
      clear h1 h2
      go_enter Tryz.func146, Tryz.ntmps146
      go_wp2_with fail
      refine (HH.out _).mono ?_
      rintro e w' ⟨rfl, rfl⟩
      rw [H1.out]
      go_wp2_with fail
      refine (HS.out _).mono ?_
      rintro e w' ⟨rfl, rfl⟩
      rw [H2.out]
      go_wp2
      go_ret
      exact ⟨by rw [HE.out]; rfl, HB.out⟩
    · have HE := Lib.hid (show plc h s = false by unfold plc; exact decide_eq_false (fun h => h2 h.2.1))
      have H1 := Lib.hid (decide_eq_true h1)
      have H2 := Lib.hid (decide_eq_false h2)
      clear h1 h2
      go_enter Tryz.func146, Tryz.ntmps146
      go_wp2_with fail
      refine (HH.out _).mono ?_
      rintro e w' ⟨rfl, rfl⟩
      rw [H1.out]
      go_wp2_with fail
      refine (HS.out _).mono ?_
      rintro e w' ⟨rfl, rfl⟩
      rw [H2.out]
      go_wp2
      go_ret
      exact ⟨by rw [HE.out]; rfl, HB.out⟩
  · have HE := Lib.hid (show plc h s = false by unfold plc; exact decide_eq_false (fun h => h1 h.1))
    have H1 := Lib.hid (decide_eq_false h1)
    clear h1
    go_enter Tryz.func146, Tryz.ntmps146
    go_wp2_with fail
    refine (HH.out _).mono ?_
    rintro e w' ⟨rfl, rfl⟩
    rw [H1.out]
    go_wp2
    go_ret
    exact ⟨by rw [HE.out]; rfl, HB.out⟩

set_option maxHeartbeats 1000000 in
theorem may_any (w : World) (k h s : Int) :
    Calls Tryz.prog 122 #[.agg #[.int .i64 k, .int .i64 h, .int .i64 s]] w fun r w' => r = .returned (.bool (may k h s)) ∧ Below w.heap.size w w' := by
  have HB := Lib.hid ((Below.refl w.heap.size w).alloc (Nat.le_refl _) (.cells #[.int .i64 k, .int .i64 h, .int .i64 s] 146))
  have HX := Lib.hid (boxed w k h s 146)
  have HN := Lib.hid none_any
  have HP := Lib.hid (fun w => place_any w k h s)
  by_cases h0 : k = 0
  · subst h0
    by_cases h1 : h = -1
    · subst h1
      by_cases h2 : s = 0
      · subst h2
        have HE := Lib.hid (show may 0 (-1) 0 = true by decide)
        go_enter Tryz.func122, Tryz.ntmps122
        go_wp2
        generalize w.alloc (.cells #[.int .i64 0, .int .i64 (-1), .int .i64 0] 146) = W at *
        have hc0 := HX.out.c0
        have hc1 := HX.out.c1
        have hc2 := HX.out.c2
        go_region_held3 (fun W' => W'.cell? ⟨w.heap.size, 0, none⟩ = some (.int .i64 0) ∧ W'.cell? ⟨w.heap.size, 1, none⟩ = some (.int .i64 (-1)) ∧ W'.cell? ⟨w.heap.size, 2, none⟩ = some (.int .i64 0)) (go_keep)
          (first
          | (go_at_call 123
             with_reducible refine (HN.out _).mono ?_
             rintro e w1 ⟨rfl, hb⟩
             have HY := Lib.hid (HX.out.drew.keep hb)
             have hk0 := HY.out.c0
             have hk1 := HY.out.c1
             have hk2 := HY.out.c2
             have HB1 := Lib.hid (HB.out.drew.trans (hb.mono HB.out.drew.size))
             clear hb))
        go_wp2
        go_ret
        exact ⟨by rw [HE.out]; rfl, HB1.out⟩
      · have HE := Lib.hid (show may 0 (-1) s = false by unfold may May; exact decide_eq_false (by omega))
        go_enter Tryz.func122, Tryz.ntmps122
        go_wp2
        generalize w.alloc (.cells #[.int .i64 0, .int .i64 (-1), .int .i64 s] 146) = W at *
        have hc0 := HX.out.c0
        have hc1 := HX.out.c1
        have hc2 := HX.out.c2
        go_region_held3 (fun W' => W'.cell? ⟨w.heap.size, 0, none⟩ = some (.int .i64 0) ∧ W'.cell? ⟨w.heap.size, 1, none⟩ = some (.int .i64 (-1)) ∧ W'.cell? ⟨w.heap.size, 2, none⟩ = some (.int .i64 s)) (go_keep)
          (first
          | (go_at_call 123
             with_reducible refine (HN.out _).mono ?_
             rintro e w1 ⟨rfl, hb⟩
             have HY := Lib.hid (HX.out.drew.keep hb)
             have hk0 := HY.out.c0
             have hk1 := HY.out.c1
             have hk2 := HY.out.c2
             have HB1 := Lib.hid (HB.out.drew.trans (hb.mono HB.out.drew.size))
             clear hb))
        go_wp2
        go_ret
        exact ⟨by rw [HE.out]; rfl, HB1.out⟩
    · have HE := Lib.hid (show may 0 h s = false by unfold may May; exact decide_eq_false (by omega))
      go_enter Tryz.func122, Tryz.ntmps122
      go_wp2
      generalize w.alloc (.cells #[.int .i64 0, .int .i64 h, .int .i64 s] 146) = W at *
      have hc0 := HX.out.c0
      have hc1 := HX.out.c1
      have hc2 := HX.out.c2
      go_region_held3 (fun W' => W'.cell? ⟨w.heap.size, 0, none⟩ = some (.int .i64 0) ∧ W'.cell? ⟨w.heap.size, 1, none⟩ = some (.int .i64 h) ∧ W'.cell? ⟨w.heap.size, 2, none⟩ = some (.int .i64 s)) (go_keep)
        (first
        | (go_at_call 123
           with_reducible refine (HN.out _).mono ?_
           rintro e w1 ⟨rfl, hb⟩
           have HY := Lib.hid (HX.out.drew.keep hb)
           have hk0 := HY.out.c0
           have hk1 := HY.out.c1
           have hk2 := HY.out.c2
           have HB1 := Lib.hid (HB.out.drew.trans (hb.mono HB.out.drew.size))
           clear hb))
      go_wp2
      go_ret
      exact ⟨by rw [HE.out]; rfl, HB1.out⟩
  · by_cases h1 : k = 1
    · subst h1
      have HE := Lib.hid (show may 1 h s = plc h s by unfold may May plc; simp)
      go_enter Tryz.func122, Tryz.ntmps122
      go_wp2_with fail
      refine (HP.out _).mono ?_
      rintro e w' ⟨rfl, hb⟩
      have HB1 := Lib.hid (HB.out.trans (hb.mono HB.out.size))
      clear hb
      go_wp2
      go_ret
      exact ⟨by rw [HE.out]; rfl, HB1.out⟩
    · by_cases h2 : k = 2
      · subst h2
        cases hp : plc h s with
        | true =>
          have hs := of_decide_eq_true (show decide ((-1 ≤ h ∧ h ≤ 65533) ∧ (0 ≤ s ∧ s ≤ 268435456) ∧ (h = -1 ↔ s = 0)) = true from hp)
          have HE := Lib.hid (show may 2 h s = (s % 64 == 0) by
            unfold may May
            by_cases e : s % 64 = 0 <;> simp [hs, e])
          have HQ := Lib.hid hp
          have hs0 : 0 ≤ s := hs.2.1.1
          have hs1 : s ≤ 268435456 := hs.2.1.2
          clear hs hp
          go_enter Tryz.func122, Tryz.ntmps122
          go_wp2_with fail
          refine (HP.out _).mono ?_
          rintro e w1 ⟨rfl, hb⟩
          rw [HQ.out]
          have HB1 := Lib.hid (HB.out.trans (hb.mono HB.out.size))
          have HX1 := Lib.hid (HX.out.keep hb)
          have hc2 := HX1.out.c2
          clear hb
          go_wp2
          go_ret
          exact ⟨by rw [HE.out]; rfl, HB1.out⟩
        | false =>
          have HE := Lib.hid (show may 2 h s = false by
            have hs := of_decide_eq_false (show decide ((-1 ≤ h ∧ h ≤ 65533) ∧ (0 ≤ s ∧ s ≤ 268435456) ∧ (h = -1 ↔ s = 0)) = false from hp)
            unfold may May
            exact decide_eq_false (fun h => by
              rcases h with h | h
              · exact absurd h.1 (by decide)
              · exact hs h.2))
          have HQ := Lib.hid hp
          clear hp
          go_enter Tryz.func122, Tryz.ntmps122
          go_wp2_with fail
          refine (HP.out _).mono ?_
          rintro e w1 ⟨rfl, hb⟩
          rw [HQ.out]
          have HB1 := Lib.hid (HB.out.trans (hb.mono HB.out.size))
          clear hb
          go_wp2
          go_ret
          exact ⟨by rw [HE.out]; rfl, HB1.out⟩
      · have HE := Lib.hid (show may k h s = false by
          unfold may May
          exact decide_eq_false (fun h => by
            rcases h with h | h
            · exact h0 h.1
            · rcases h.1 with h | h
              · exact h1 h
              · exact h2 h.1))
        go_enter Tryz.func122, Tryz.ntmps122
        go_wp2
        go_ret
        exact ⟨by rw [HE.out]; rfl, HB.out⟩
end Ino
end Go.Proofs.YtleehhpodgbomaaGreatDoor
/- The program's line of an inode: Encode, walked. -/
namespace Go.Proofs.YtleehhpodgbomaaGreatDoor
open Go.RowKit Go.MapKept
namespace Ino
open Lin

theorem field_any (w : World) (n : Nat) (h : n < 65536) :
    Calls Tryz.prog 124 #[.int .i64 (n : Int)] w fun r w' => r = .returned (.agg #[.int .i64 16, .int .u64 (n : Int)]) ∧ Below w.heap.size w w' := by
  go_enter Tryz.func124, Tryz.ntmps124
  go_wp2
  refine bodyPost_ret (v := .agg #[.int .i64 16, .int .u64 (n : Int)]) ?_ rfl ⟨rfl, ?_⟩
  · simp [results, Tryz.results124, go_sem]
  · first
    | exact (Below.refl _ _).alloc (Nat.le_refl _) _
    | exact (((Below.refl _ _).alloc (Nat.le_refl _) _).setCell (by simp) _).setCell (by simp) _

theorem nums_any (w : World) {n m : Nat} (hn : n < 65536) (hm : m < 65536) : Calls Tryz.prog 65 #[.slice (some ⟨w.heap.size, 0, none⟩) 2 2] (w.alloc (.cells #[.int .i64 16, .int .u64 (n : Int), .int .i64 16, .int .u64 (m : Int)] 126)) fun e w' => e = .returned (.tuple #[.int .u64 (nums n m : Nat), .bool true]) ∧ Below w.heap.size w w' := by
  refine (Pack.pack_any _ 2 _ (fds_two w hn hm)).mono ?_
  rintro e w' ⟨rfl, hb⟩
  rw [pk_nums hn hm]
  have hb0 := (Below.refl w.heap.size w).alloc (Nat.le_refl _) (.cells #[.int .i64 16, .int .u64 (n : Int), .int .i64 16, .int .u64 (m : Int)] 126)
  exact ⟨rfl, hb0.trans (hb.mono hb0.size)⟩

theorem encode_no (w : World) (k h s : Int) (hm : may k h s = false) :
    Calls Tryz.prog 86 #[.agg #[.int .i64 k, .int .i64 h, .int .i64 s]] w fun r w' => r = .returned (.tuple #[.slice none 0 0, .int .i64 1]) ∧ Below w.heap.size w w' := by
  have HM := Lib.hid (fun w => may_any w k h s)
  have HE := Lib.hid hm
  clear hm
  have HB := Lib.hid ((Below.refl w.heap.size w).alloc (Nat.le_refl _) (.cells #[.int .i64 k, .int .i64 h, .int .i64 s] 146))
  go_enter Tryz.func86, Tryz.ntmps86
  go_wp2_with fail
  refine (HM.out _).mono ?_
  rintro e w' ⟨rfl, hb⟩
  rw [HE.out]
  have HB1 := Lib.hid (HB.out.trans (hb.mono HB.out.size))
  clear hb
  go_wp2
  go_ret2
  exact ⟨rfl, HB1.out⟩

theorem set_nums (x : Nat) (j : Nat) (_h : j < 8) : (if j = 0 then x else ([] : List Nat)[j]?.getD 0) = [x][j]?.getD 0 := by
  match j with
  | 0 => rfl
  | j + 1 => simp
theorem set_size (x y : Nat) (j : Nat) (_h : j < 8) : (if j = 1 then y else [x][j]?.getD 0) = [x, y][j]?.getD 0 := by
  match j with
  | 0 => rfl
  | 1 => rfl
  | j + 2 => simp
theorem set_sum (x y z : Nat) (j : Nat) (h : j < 8) : (if j = 7 then z else [x, y][j]?.getD 0) = [x, y, 0, 0, 0, 0, 0, z][j]?.getD 0 := by
  have : j = 0 ∨ j = 1 ∨ j = 2 ∨ j = 3 ∨ j = 4 ∨ j = 5 ∨ j = 6 ∨ j = 7 := by omega
  rcases this with rfl | rfl | rfl | rfl | rfl | rfl | rfl | rfl <;> rfl

theorem front_crc {w : World} {g k p s : Nat} (h : w.rowIs g 71 8 (rowOf [nums k p, s])) (hk : k < 65536) (hp : p < 65536) (hs : s < 18446744073709551616) : Crc.Wds w (some ⟨g, 0, none⟩) (front k p s) := by
  refine row_crc h (by rw [front_len]; omega) (front_u64 hk hp hs) ?_
  intro j hj
  have : j < 7 := hj
  have : j = 0 ∨ j = 1 ∨ j = 2 ∨ j = 3 ∨ j = 4 ∨ j = 5 ∨ j = 6 := by omega
  rcases this with rfl | rfl | rfl | rfl | rfl | rfl | rfl <;> rfl

set_option maxHeartbeats 2000000 in
theorem encode_free (w : World) :
    Calls Tryz.prog 86 #[.agg #[.int .i64 0, .int .i64 (-1), .int .i64 0]] w fun r w' => ∃ g : Nat, w.heap.size ≤ g ∧ r = .returned (.tuple #[.slice (some ⟨g, 0, none⟩) 8 8, .int .i64 0]) ∧ w'.rowIs g 71 8 (rowOf zero) ∧ Below w.heap.size w w' := by
  have HM := Lib.hid (fun w => may_any w 0 (-1) 0)
  have HE := Lib.hid (show may 0 (-1) 0 = true by decide)
  have HN := Lib.hid none_any
  have HB := Lib.hid ((Below.refl w.heap.size w).alloc (Nat.le_refl _) (.cells #[.int .i64 0, .int .i64 (-1), .int .i64 0] 146))
  have HX := Lib.hid (boxed w 0 (-1) 0 146)
  go_enter Tryz.func86, Tryz.ntmps86
  go_wp2_with fail
  refine (HM.out _).mono ?_
  rintro e w1 ⟨rfl, hb⟩
  rw [HE.out]
  have HB1 := Lib.hid (HB.out.trans (hb.mono HB.out.size))
  have HX1 := Lib.hid (HX.out.keep hb)
  have hsz : w.heap.size < w1.heap.size := HX1.out.lt
  clear hb HX
  have hmk := run_make_row' (P := Tryz.prog) 22 71 _ 8 Tryz.underlying22 Pack.u64_info rfl .i64 .i64 8 (by omega) (by omega) w1
  rw [show ((8 : Nat) : Int) = 8 from rfl] at hmk
  have hb2 := (Below.refl w1.heap.size w1).alloc (Nat.le_refl _) (.cells (madeCells #[.int .u64 0] 8) 71)
  have HE2 := Lib.hid (show En w w.heap.size w.heap.size w1.heap.size 0 (-1) 0 [] (w1.alloc (.cells (madeCells #[.int .u64 0] 8) 71)) from ⟨HX1.out.keep hb2, row_made w1, by omega, HB1.out.trans (hb2.mono HB1.out.size), HB1.out.size⟩)
  clear hb2 HX1 HB1 HB HM HE
  go_wp2
  generalize w1.alloc (.cells (madeCells #[.int .u64 0] 8) 71) = w2 at *
  generalize hg : w1.heap.size = g at *
  clear hg hmk
  have hs2 : w.heap.size < w2.heap.size := HE2.out.box.lt
  have hc0 := HE2.out.box.c0
  have hc1 := HE2.out.box.c1
  have hc2 := HE2.out.box.c2
  go_region_held3 (fun W' => W'.cell? ⟨w.heap.size, 0, none⟩ = some (.int .i64 0) ∧ W'.cell? ⟨w.heap.size, 1, none⟩ = some (.int .i64 (-1)) ∧ W'.cell? ⟨w.heap.size, 2, none⟩ = some (.int .i64 0)) (go_keep)
    (first
    | (go_at_call 123
       with_reducible refine (HN.out _).mono ?_
       rintro e w3 ⟨rfl, hb⟩
       have HE3 := Lib.hid (HE2.out.drew.keep hb (Nat.le_of_lt HE2.out.drew.box.lt))
       have hk0 := HE3.out.box.c0
       have hk1 := HE3.out.box.c1
       have hk2 := HE3.out.box.c2
       clear hb))
  go_wp2
  go_ret2
  exact ⟨g, HE3.out.nN, rfl, row_zero HE3.out.row, HE3.out.below⟩

set_option maxHeartbeats 2000000 in
set_option maxRecDepth 100000 in
theorem encode_full (w : World) (k p s : Nat) (h : Int) (hh : h = (p : Int) - 1) (hk0 : k ≠ 0) (hm : may k ((p : Int) - 1) s = true) :
    Calls Tryz.prog 86 #[.agg #[.int .i64 (k : Int), .int .i64 h, .int .i64 (s : Int)]] w fun r w' => ∃ g : Nat, w.heap.size ≤ g ∧ r = .returned (.tuple #[.slice (some ⟨g, 0, none⟩) 8 8, .int .i64 0]) ∧ w'.rowIs g 71 8 (rowOf (full k p s)) ∧ Below w.heap.size w w' := by
  obtain ⟨h1, h2, h3⟩ := may_lt hm
  have HM := Lib.hid (fun w => may_any w k h s)
  have HE := Lib.hid (show may k h s = true by rw [hh]; exact hm)
  have HNN := Lib.hid none_any
  have HN1 := Lib.hid (fun w => field_any w k (by omega))
  have HN2 := Lib.hid (fun w => field_any w p (by omega))
  have HP := Lib.hid (fun w => nums_any w (n := k) (m := p) (by omega) (by omega))
  have HW := Lib.hid (show IntKind.i64.wrap (h + 1) = (p : Int) by rw [IntKind.wrap_i64]; omega)
  have hki : ¬ (k : Int) = 0 := by omega
  have hs64 : s < 18446744073709551616 := by omega
  have hk64 : k < 65536 := by omega
  have hp64 : p < 65536 := by omega
  clear hm hh
  have HB := Lib.hid ((Below.refl w.heap.size w).alloc (Nat.le_refl _) (.cells #[.int .i64 (k : Int), .int .i64 h, .int .i64 (s : Int)] 146))
  have HX := Lib.hid (boxed w k h s 146)
  go_enter Tryz.func86, Tryz.ntmps86
  go_wp2_with fail
  refine (HM.out _).mono ?_
  rintro e w1 ⟨rfl, hb⟩
  rw [HE.out]
  have HB1 := Lib.hid (HB.out.trans (hb.mono HB.out.size))
  have HX1 := Lib.hid (HX.out.keep hb)
  have hsz : w.heap.size < w1.heap.size := HX1.out.lt
  clear hb HX
  have hmk := run_make_row' (P := Tryz.prog) 22 71 _ 8 Tryz.underlying22 Pack.u64_info rfl .i64 .i64 8 (by omega) (by omega) w1
  rw [show ((8 : Nat) : Int) = 8 from rfl] at hmk
  have hb2 := (Below.refl w1.heap.size w1).alloc (Nat.le_refl _) (.cells (madeCells #[.int .u64 0] 8) 71)
  have HE2 := Lib.hid (show En w w.heap.size w.heap.size w1.heap.size k h s [] (w1.alloc (.cells (madeCells #[.int .u64 0] 8) 71)) from ⟨HX1.out.keep hb2, row_made w1, by omega, HB1.out.trans (hb2.mono HB1.out.size), HB1.out.size⟩)
  clear hb2 HX1 HB1 HB HM HE
  go_wp2
  generalize w1.alloc (.cells (madeCells #[.int .u64 0] 8) 71) = w2 at *
  generalize hg : w1.heap.size = g at *
  clear hg hmk
  have hs2 : w.heap.size < w2.heap.size := HE2.out.box.lt
  have hc0 := HE2.out.box.c0
  have hc1 := HE2.out.box.c1
  have hc2 := HE2.out.box.c2
  go_region_held3 (fun W' => W'.cell? ⟨w.heap.size, 0, none⟩ = some (.int .i64 (k : Int)) ∧ W'.cell? ⟨w.heap.size, 1, none⟩ = some (.int .i64 h) ∧ W'.cell? ⟨w.heap.size, 2, none⟩ = some (.int .i64 (s : Int))) (go_keep)
    (first
    | (go_at_call 123
       with_reducible refine (HNN.out _).mono ?_
       rintro e w3 ⟨rfl, hb⟩
       have HE3 := Lib.hid (HE2.out.drew.keep hb (Nat.le_of_lt HE2.out.drew.box.lt))
       have hk0 := HE3.out.box.c0
       have hk1 := HE3.out.box.c1
       have hk2 := HE3.out.box.c2
       clear hb))
  clear hc0 hc1 hc2 hk0 hk1 hk2 HE2 HNN hs2
  go_wp2
  have hs4 : w.heap.size < w3.heap.size := HE3.out.box.lt
  have hc0 := HE3.out.box.c0
  have hc1 := HE3.out.box.c1
  have hc2 := HE3.out.box.c2
  have hw := HW.out
  go_region_held3 (fun W' => W'.cell? ⟨w.heap.size, 0, none⟩ = some (.int .i64 (k : Int)) ∧ W'.cell? ⟨w.heap.size, 1, none⟩ = some (.int .i64 h) ∧ W'.cell? ⟨w.heap.size, 2, none⟩ = some (.int .i64 (s : Int))) (go_keep)
    (first
    | (go_at_call 124
       with_reducible refine (HN1.out _).mono ?_
       rintro e w5 ⟨rfl, hb⟩
       have HE5 := Lib.hid (HE3.out.drew.keep hb (Nat.le_of_lt HE3.out.drew.box.lt))
       have hk0 := HE5.out.box.c0
       have hk1 := HE5.out.box.c1
       have hk2 := HE5.out.box.c2
       clear hb)
    | (go_at_call 124
       with_reducible refine (HN2.out _).mono ?_
       rintro e w6 ⟨rfl, hb⟩
       have HE6 := Lib.hid (HE5.out.keep hb (Nat.le_of_lt HE5.out.box.lt))
       have hl0 := HE6.out.box.c0
       have hl1 := HE6.out.box.c1
       have hl2 := HE6.out.box.c2
       clear hb)
    | (go_at_call 65
       with_reducible refine (HP.out _).mono ?_
       rintro e w8 ⟨rfl, hb⟩
       have HE8 := Lib.hid (HE6.out.keep hb (Nat.le_of_lt HE6.out.box.lt))
       have hn0 := HE8.out.box.c0
       have hn1 := HE8.out.box.c1
       have hn2 := HE8.out.box.c2
       have hn3 := HE8.out.row.cell (i := 0) (by omega)
       have hn4 := HE8.out.row.frozen 0
       have HE9 := Lib.hid (HE8.out.set 0 (nums k p) (set_nums _))
       have hq0 := HE9.out.box.c0
       have hq1 := HE9.out.box.c1
       have hq2 := HE9.out.box.c2
       clear hb))
  clear hk0 hk1 hk2 hl0 hl1 hl2 hn0 hn1 hn2 hn3 hn4 hq0 hq1 hq2 hc0 hc1 hc2 HE5 HE6 HE8 HE3 HN1 HN2 HP hw hs4
  generalize w8.setCell ⟨g, 0, none⟩ (.int .u64 (nums k p : Int)) = w9 at *
  have hs9 : w.heap.size < w9.heap.size := HE9.out.box.lt
  have hc2 := HE9.out.box.c2
  have hrc := HE9.out.row.cell (i := 1) (by omega)
  have hrf := HE9.out.row.frozen 1
  have HE10 := Lib.hid (HE9.out.set 1 s (set_size _ _))
  have HC := Lib.hid (Crc.words32_any (some ⟨g, 0, none⟩) 8 (front k p s) (front_crc HE10.out.row hk64 hp64 hs64))
  have hsl := sum_lt k p s
  have hrc7 := HE10.out.row.cell (i := 7) (by omega)
  have hrf7 := HE10.out.row.frozen 7
  go_wp2_with fail
  refine HC.out.mono ?_
  rintro e w' ⟨rfl, rfl⟩
  rw [show Crc.S32 (Crc.wflat (front k p s)) = sum k p s from rfl]
  clear HC hc2 hrc hrf
  generalize w9.setCell ⟨g, 1, none⟩ (.int .u64 (s : Int)) = w10 at *
  go_wp2
  go_ret2
  have h11 := HE10.out.set 7 (sum k p s) (set_sum _ _ _)
  exact ⟨g, h11.nN, rfl, h11.row, h11.below⟩

theorem encode_yes (w : World) (k p s : Nat) (h : Int) (hh : h = (p : Int) - 1) (hm : may k ((p : Int) - 1) s = true) :
    Calls Tryz.prog 86 #[.agg #[.int .i64 (k : Int), .int .i64 h, .int .i64 (s : Int)]] w fun r w' => ∃ g : Nat, w.heap.size ≤ g ∧ r = .returned (.tuple #[.slice (some ⟨g, 0, none⟩) 8 8, .int .i64 0]) ∧ w'.rowIs g 71 8 (rowOf (ln k p s)) ∧ Below w.heap.size w w' := by
  by_cases hk : k = 0
  · subst hk
    obtain ⟨rfl, rfl⟩ := may_free hm
    subst hh
    rw [ln_zero]
    exact encode_free w
  · rw [ln_full hk]
    exact encode_full w k p s h hh hk hm
end Ino
end Go.Proofs.YtleehhpodgbomaaGreatDoor
/- Whether two lists of words are the same: the library's Equal. -/
namespace Go.Proofs.YtleehhpodgbomaaGreatDoor
open Go.RowKit Go.MapKept
namespace Lin
open Pack (Wds)

section
variable {w : World}
set_option maxHeartbeats 1600000 in
set_option maxRecDepth 100000 in
theorem equal_any (A B : Option Addr) (c d : Nat) (l m : List Nat) (h : Wds w A l) (g : Wds w B m) :
    Calls Tryz.prog 128 #[.slice A l.length c, .slice B m.length d] w fun e w' => e = .returned (.bool (decide (l = m))) ∧ ∃ n, w' = w.drewN n := by
  have hn := h.len
  have hm := g.len
  have H := Lib.hid h
  have G := Lib.hid g
  clear h g
  by_cases hlen : l.length = m.length
  · go_enter Tryz.func128, Tryz.ntmps128
    go_wp2
    go_loopw [13] (fun i wr => ∃ (k n : Nat), k ≤ l.length ∧ i = .int .i64 (k : Int) ∧ l.take k = m.take k ∧ wr = w.drewN n) (fun i _ => l.length - (intOf i).toNat)
    case atStart => exact ⟨0, 0, Nat.zero_le _, rfl, rfl, rfl⟩
    case round =>
      obtain ⟨k, n, hk, rfl, hs, rfl⟩ := hrel
      have HS := Lib.hid hs
      clear hs
      by_cases hlt : k < l.length
      · have hlt2 : k < m.length := by omega
        obtain ⟨b, o, rfl, hb, hcell⟩ := H.out.at' k hlt
        obtain ⟨b2, o2, rfl, hb2, hcell2⟩ := G.out.at' k hlt2
        have hi0 : (0 : Int) ≤ (k : Int) := by omega
        have hi1 : (k : Int) < (l.length : Int) := by omega
        have hi2 : (k : Int) < (m.length : Int) := by omega
        have HE := Lib.hid (show l.take (k + 1) = m.take (k + 1) ↔ l[k] = m[k] by
          rw [List.take_succ_eq_append_getElem hlt, List.take_succ_eq_append_getElem (l := m) hlt2, HS.out, List.append_right_inj]
          simp)
        generalize l[k] = x at *
        generalize m[k] = y at *
        by_cases hxy : x = y
        · subst hxy
          have HE1 := Lib.hid (HE.out.2 rfl)
          clear HE
          go_wp2
          go_quiet (fail)
          go_wp2
          refine ⟨⟨k + 1, n + nq, by omega, by go_num, HE1.out, rfl⟩, by simp [intOf]; omega⟩
        · have hne : ¬ (x : Int) = (y : Int) := by omega
          go_wp2
          go_quiet (fail)
          go_wp2
          go_ret
          refine ⟨?_, n + nq, World.drewN_drewN _ _ _⟩
          have : ¬ l = m := fun h => hxy (HE.out.1 (by rw [h]))
          rw [decide_eq_false this]
          rfl
      · obtain rfl : k = l.length := by omega
        have he : l = m := by
          have := HS.out
          rwa [List.take_length, hlen, List.take_length] at this
        go_wp2
        go_ret
        refine ⟨?_, n, rfl⟩
        rw [decide_eq_true he]
        rfl
  · have hne : ¬ (l.length : Int) = (m.length : Int) := by omega
    have hlm : ¬ l = m := fun h => hlen (by rw [h])
    go_enter Tryz.func128, Tryz.ntmps128
    go_wp2
    go_ret
    refine ⟨?_, 0, rfl⟩
    rw [decide_eq_false hlm]
    rfl

end
end Lin
end Go.Proofs.YtleehhpodgbomaaGreatDoor
/- Decode, walked. -/
namespace Go.Proofs.YtleehhpodgbomaaGreatDoor
open Go.RowKit Go.MapKept
namespace Ino
open Lin

/-- an inode, the free one if there is none -/
def gv : Option (Nat × Nat × Nat) → Value
  | some (k, p, s) => .agg #[.int .i64 (k : Int), .int .i64 ((p : Int) - 1), .int .i64 (s : Int)]
  | none => .agg #[.int .i64 0, .int .i64 (-1), .int .i64 0]
/-- the error -/
def ev : Option (Nat × Nat × Nat) → Int
  | some _ => 0
  | none => 2

theorem split_no (w : World) (N : Nat) (hN : w.heap.size = N) (x : Nat) (hx : x < 18446744073709551616) (h : ¬ x < 4294967296) : Calls Tryz.prog 95 #[.int .u64 (x : Int), .slice (some ⟨N, 0, none⟩) 2 2] (w.alloc (.cells #[.int .i64 16, .int .i64 16] 3)) fun e w' => ∃ (G : Option Addr) (gc : Nat), e = .returned (.tuple #[.slice G 0 gc, .bool false]) ∧ Below w.heap.size w w' := by
  subst hN
  refine (Pack.split_any x hx _ 2 _ (nts_two w)).mono ?_
  rintro e w' ⟨G, gc, rfl, hw, hb⟩
  have hb0 := (Below.refl w.heap.size w).alloc (Nat.le_refl _) (.cells #[.int .i64 16, .int .i64 16] 3)
  rw [split_nums, if_neg h]
  exact ⟨G, gc, rfl, hb0.trans (hb.mono hb0.size)⟩

theorem split_yes (w : World) (N : Nat) (hN : w.heap.size = N) (x : Nat) (h : x < 4294967296) : Calls Tryz.prog 95 #[.int .u64 (x : Int), .slice (some ⟨N, 0, none⟩) 2 2] (w.alloc (.cells #[.int .i64 16, .int .i64 16] 3)) fun e w' => ∃ (b o gc : Nat), e = .returned (.tuple #[.slice (some ⟨b, o, none⟩) 2 gc, .bool true]) ∧ (b < w'.heap.size ∧ w'.cell? ⟨b, o, none⟩ = some (.int .u64 ((x % 65536 : Nat) : Int)) ∧ w'.cell? ⟨b, o + 1, none⟩ = some (.int .u64 ((x / 65536 : Nat) : Int))) ∧ Below w.heap.size w w' := by
  subst hN
  refine (Pack.split_any x (by omega) _ 2 _ (nts_two w)).mono ?_
  rintro e w' ⟨G, gc, rfl, hw, hb⟩
  have hb0 := (Below.refl w.heap.size w).alloc (Nat.le_refl _) (.cells #[.int .i64 16, .int .i64 16] 3)
  have e : x / 65536 % 65536 = x / 65536 := by omega
  rw [split_nums, if_pos h, e] at hw ⊢
  simp only [Option.getD_some] at hw
  obtain ⟨b, o, rfl, hlt, hc0⟩ := hw.at' 0 (by simp)
  obtain ⟨b', o', e, _, hc1⟩ := hw.at' 1 (by simp)
  injection e with e
  injection e with e1 e2
  subst e1 e2
  exact ⟨b, o, gc, rfl, ⟨hlt, hc0, hc1⟩, hb0.trans (hb.mono hb0.size)⟩

section
variable {w : World}
end
end Ino
end Go.Proofs.YtleehhpodgbomaaGreatDoor
/- The document's May and Encode. -/
namespace Go.Proofs.YtleehhpodgbomaaGreatDoor
open Go.RowKit Go.MapKept
namespace Ino
open Lin

theorem may_iff {k h s : Int} : may k h s = true ↔ May k h s := decide_eq_true_iff
theorem ret_bool {a b : Bool} (h : a = true ↔ b = true) : Ending.returned (Value.bool a) = Ending.returned (Value.bool b) := by rw [Bool.eq_iff_iff.2 h]

end Ino
end Go.Proofs.YtleehhpodgbomaaGreatDoor
/- The document's Encode. -/
namespace Go.Proofs.YtleehhpodgbomaaGreatDoor
open Go.RowKit Go.MapKept
namespace Ino
open Lin

theorem front_new (w : World) (k p s : Nat) (h : Int) (hh : h = (p : Int) - 1) (hk : k < 65536) (hp : p < 65536) (hs : s < 18446744073709551616) : Crc.Wds (w.alloc (.cells #[.int .u64 ((k : Int) + 65536 * (h + 1)), .int .u64 (s : Int), .int .u64 0, .int .u64 0, .int .u64 0, .int .u64 0, .int .u64 0] 71)) (some ⟨w.heap.size, 0, none⟩) (front k p s) :=
  ⟨front_u64 hk hp hs, by rw [front_len]; omega, fun j hj => ⟨w.heap.size, 0, rfl, by simp, by
    rw [World.cell?_alloc_mark, Nat.zero_add]
    have : j < 7 := hj
    have e : (k : Int) + 65536 * (h + 1) = ((nums k p : Nat) : Int) := by unfold nums; omega
    match j, this with
    | 0, _ => rw [e]; rfl
    | 1, _ => rfl
    | 2, _ => rfl
    | 3, _ => rfl
    | 4, _ => rfl
    | 5, _ => rfl
    | 6, _ => rfl⟩⟩

end Ino
end Go.Proofs.YtleehhpodgbomaaGreatDoor
/- The document's decoding. -/
namespace Go.Proofs.YtleehhpodgbomaaGreatDoor
open Go.RowKit Go.MapKept
namespace Ino
open Lin

/-- the inode, and whether there is one -/
def rv (q : Option (Nat × Nat × Nat)) : Value := .tuple #[gv q, .bool q.isSome]

/-- the result's block, and the free one's -/
structure Two (w0 w : World) (b : Nat) : Prop where
  own : Own w b 0 0 0
  free : Box w (b + 1) 0 (-1) 0
  below : Below b w0 w
theorem Two.keep {w0 w w' : World} {b : Nat} (h : Two w0 w b) (hb : Below w.heap.size w w') : Two w0 w' b :=
  ⟨h.own.keep hb, h.free.keep hb, h.below.trans (hb.mono (Nat.le_of_lt h.own.box.lt))⟩
theorem Two.drewN {w0 w : World} {b : Nat} (h : Two w0 w b) (k : Nat) : Two w0 (w.drewN k) b :=
  ⟨h.own.drewN k, h.free.drewN k, Pack.below_drewN h.below k⟩
theorem two_new (w : World) (t : TypeId) : Two w ((w.alloc (.cells #[.int .i64 0, .int .i64 0, .int .i64 0] t)).alloc (.cells #[.int .i64 0, .int .i64 (-1), .int .i64 0] t)) w.heap.size := by
  have hb := (Below.refl w.heap.size w).alloc (Nat.le_refl _) (.cells #[.int .i64 0, .int .i64 0, .int .i64 0] t)
  have hb' := (Below.refl _ (w.alloc (.cells #[.int .i64 0, .int .i64 0, .int .i64 0] t))).alloc (Nat.le_refl _) (.cells #[.int .i64 0, .int .i64 (-1), .int .i64 0] t)
  exact ⟨(owned w 0 0 0 t).keep hb', boxed_at (World.size_alloc _ _) _ _ _ _, hb.trans (hb'.mono hb.size)⟩

theorem below_two (w : World) (o o' : Obj) : Below w.heap.size w ((w.alloc o).alloc o') := by
  have hb := (Below.refl w.heap.size w).alloc (Nat.le_refl _) o
  exact hb.alloc hb.size _

section
variable {w : World}
end
end Ino
end Go.Proofs.YtleehhpodgbomaaGreatDoor
/- The chapter's example; InodeEncodes, walked. -/
namespace Go.Proofs.YtleehhpodgbomaaGreatDoor
open Go.RowKit Go.MapKept
namespace Ino
open Lin

theorem nums_ex : nums 1 3 = 196609 := by decide
theorem may_ex : may ((1 : Nat) : Int) (((3 : Nat) : Int) - 1) ((5 : Nat) : Int) = true := by decide

set_option maxHeartbeats 1000000 in
theorem lives_any (w : World) : Calls Tryz.prog 48 #[] w fun r w' => r = .returned (.bool true) ∧ Below w.heap.size w w' := by
  have he : Calls Tryz.prog 86 #[.agg #[.int .i64 1, .int .i64 2, .int .i64 5]] w fun r w' => ∃ g : Nat, w.heap.size ≤ g ∧ r = .returned (.tuple #[.slice (some ⟨g, 0, none⟩) 8 8, .int .i64 0]) ∧ w'.rowIs g 71 8 (rowOf (full 1 3 5)) ∧ Below w.heap.size w w' := encode_full w 1 3 5 2 (by decide) (by decide) may_ex
  have HE := Lib.hid he
  have H2 := Lib.hid Crc.lives_any
  have H3 := Lib.hid Pack.lives_any
  clear he
  go_enter Tryz.func48, Tryz.ntmps48
  go_wp2_with fail
  refine HE.out.mono ?_
  rintro e w0 ⟨g, _, rfl, hrow, hb⟩
  have HR1 := Lib.hid hrow
  have HB1 := Lib.hid hb
  clear hrow hb HE
  go_wp2_with fail
  refine (H2.out _).mono ?_
  rintro e w2 ⟨rfl, hb⟩
  have HR2 := Lib.hid (row_keep HR1.out hb)
  have HB2 := Lib.hid (HB1.out.trans (hb.mono HB1.out.size))
  clear hb HR1 HB1
  go_wp2_with fail
  refine (H3.out _).mono ?_
  rintro e w3 ⟨rfl, hb⟩
  have HR3 := Lib.hid (row_keep HR2.out hb)
  have HB3 := Lib.hid (HB2.out.trans (hb.mono HB2.out.size))
  clear hb HR2 HB2
  have hc1 : w3.cell? ⟨g, 0, none⟩ = some (.int .u64 196609) := by
    rw [HR3.out.cell (i := 0) (by omega)]
    show some (Value.int .u64 ((nums 1 3 : Nat) : Int)) = _
    rw [nums_ex]
    rfl
  go_wp2
  go_ret
  exact ⟨rfl, HB3.out⟩

end Ino
end Go.Proofs.YtleehhpodgbomaaGreatDoor
/- A slot's word as a number, whether a slot may be, and whose a word is. -/
namespace Go.Proofs.YtleehhpodgbomaaGreatDoor
open Go.RowKit Go.MapKept
namespace Slo
open Lin

/-- it may be -/
def May (s c n : Int) : Prop := (0 ≤ s ∧ s ≤ 65533) ∧ (1 ≤ c ∧ c ≤ 65534 - s) ∧ (-1 ≤ n ∧ n ≤ 65533)
instance (s c n : Int) : Decidable (May s c n) := by unfold May; infer_instance
def may (s c n : Int) : Bool := decide (May s c n)
theorem may_iff {s c n : Int} : may s c n = true ↔ May s c n := decide_eq_true_iff

/-- the Next that a field tells -/
def nx (q : Nat) : Int := if q = 65535 then -1 else (q : Int)
theorem nx_none : nx 65535 = -1 := rfl
theorem nx_some {q : Nat} (h : q ≠ 65535) : nx q = (q : Int) := if_neg h

/-- the three numbers -/
def nums (s c q : Nat) : Nat := s + 65536 * c + 4294967296 * q
/-- the 6 bytes that are summed -/
def six (x : Nat) : List Nat := (Crc.wb x).take 6
/-- their sum -/
def sum (s c q : Nat) : Nat := Crc.S16 (six (nums s c q))
/-- the word -/
def wd (s c q : Nat) : Nat := nums s c q + 281474976710656 * sum s c q

theorem six_len (x : Nat) : (six x).length = 6 := by
  unfold six
  rw [List.length_take, Crc.wb_len]
  rfl
theorem six_byt (x : Nat) : Crc.Byt (six x) := (Crc.wb_byt x).take 6
theorem nums_lt {s c q : Nat} (hs : s < 65536) (hc : c < 65536) (hq : q < 65536) : nums s c q < 281474976710656 := by unfold nums; omega
theorem s16_lt (l : List Nat) : Crc.S16 l < 65536 := by
  unfold Crc.S16
  exact Crc.rev_lt 16 _
theorem sum_lt (s c q : Nat) : sum s c q < 65536 := s16_lt _
theorem wd_lt {s c q : Nat} (hs : s < 65536) (hc : c < 65536) (hq : q < 65536) : wd s c q < 18446744073709551616 := by
  have h1 := nums_lt hs hc hq
  have h2 := sum_lt s c q
  unfold wd
  omega

theorem wd_s {s c q : Nat} (hs : s < 65536) (_hc : c < 65536) (_hq : q < 65536) : wd s c q % 65536 = s := by
  unfold wd nums
  omega
theorem wd_c {s c q : Nat} (hs : s < 65536) (hc : c < 65536) (_hq : q < 65536) : wd s c q / 65536 % 65536 = c := by
  unfold wd nums
  omega
theorem wd_q {s c q : Nat} (hs : s < 65536) (hc : c < 65536) (hq : q < 65536) : wd s c q / 4294967296 % 65536 = q := by
  unfold wd nums
  omega

/-- the numbers' bounds -/
theorem may_lt {s c q : Nat} (h : may s c (nx q) = true) : s ≤ 65533 ∧ 1 ≤ c ∧ c + s ≤ 65534 ∧ q < 65536 := by
  have h := may_iff.1 h
  unfold May nx at h
  split at h <;> omega
theorem may_nat {s c n : Int} (e : may s c n = true) : ∃ s' c' q : Nat, s = (s' : Int) ∧ c = (c' : Int) ∧ n = nx q := by
  have e := may_iff.1 e
  unfold May at e
  obtain ⟨s, rfl⟩ := Int.eq_ofNat_of_zero_le (show 0 ≤ s by omega)
  obtain ⟨c, rfl⟩ := Int.eq_ofNat_of_zero_le (show 0 ≤ c by omega)
  by_cases h : n = -1
  · exact ⟨s, c, 65535, rfl, rfl, h⟩
  · obtain ⟨q, rfl⟩ := Int.eq_ofNat_of_zero_le (show 0 ≤ n by omega)
    exact ⟨s, c, q, rfl, rfl, (nx_some (by omega)).symm⟩

theorem pk_three {s c q : Nat} (hs : s < 65536) (hc : c < 65536) (hq : q < 65536) : Pack.pk 0 0 [⟨16, s⟩, ⟨16, c⟩, ⟨16, q⟩] = some (nums s c q, 48) := by
  unfold nums
  simp [Pack.pk, hs, hc, hq]
  omega
theorem pk_four {s c q m : Nat} (hs : s < 65536) (hc : c < 65536) (hq : q < 65536) (hm : m < 65536) : Pack.pk 0 0 [⟨16, s⟩, ⟨16, c⟩, ⟨16, q⟩, ⟨16, m⟩] = some (nums s c q + 281474976710656 * m, 64) := by
  unfold nums
  simp [Pack.pk, hs, hc, hq, hm]
  omega
theorem split_four {x : Nat} (h : x < 18446744073709551616) : Pack.split x [16, 16, 16, 16] = some [x % 65536, x / 65536 % 65536, x / 4294967296 % 65536, x / 281474976710656] := by
  have ht : Pack.tot 0 [16, 16, 16, 16] = some 64 := by decide
  unfold Pack.split
  rw [ht]
  have e : (2 : Nat) ^ 64 = 18446744073709551616 := rfl
  simp only [e]
  have h0 : x / 18446744073709551616 = 0 := by omega
  rw [if_pos h0]
  simp only [Pack.sp]
  have e16 : (2 : Nat) ^ (16 : Int).toNat = 65536 := by decide
  simp only [e16]
  have e1 : x / 65536 / 65536 = x / 4294967296 := by rw [Nat.div_div_eq_div_mul]
  have e2 : x / 4294967296 / 65536 = x / 281474976710656 := by rw [Nat.div_div_eq_div_mul]
  rw [e1, e2]
  have e3 : x / 281474976710656 % 65536 = x / 281474976710656 := by omega
  rw [e3]

/-- whose it is: the start, the count, the field of the Next -/
def dec (x : Nat) : Option (Nat × Nat × Nat) :=
  let s : Nat := x % 65536
  let c : Nat := x / 65536 % 65536
  let q : Nat := x / 4294967296 % 65536
  if may s c (nx q) = true ∧ x = wd s c q then some (s, c, q) else none

theorem dec_wd {s c q : Nat} (h : may s c (nx q) = true) : dec (wd s c q) = some (s, c, q) := by
  obtain ⟨h1, h2, h3, h4⟩ := may_lt h
  unfold dec
  simp only [wd_s (show s < 65536 by omega) (show c < 65536 by omega) h4, wd_c (show s < 65536 by omega) (show c < 65536 by omega) h4, wd_q (show s < 65536 by omega) (show c < 65536 by omega) h4]
  exact if_pos ⟨h, trivial⟩

theorem dec_some {x s c q : Nat} (h : dec x = some (s, c, q)) : may s c (nx q) = true ∧ x = wd s c q := by
  unfold dec at h
  simp only at h
  split at h
  · rename_i hc
    injection h with h
    injection h with h1 h2
    injection h2 with h2 h3
    subst h1 h2 h3
    exact hc
  · cases h

/-- what is no word of one that may be -/
theorem dec_none {x : Nat} (h : ∀ s c q : Nat, may s c (nx q) = true → x ≠ wd s c q) : dec x = none := by
  cases e : dec x with
  | none => rfl
  | some q =>
    obtain ⟨s, c, q⟩ := q
    have := dec_some e
    exact absurd this.2 (h s c q this.1)
end Slo
end Go.Proofs.YtleehhpodgbomaaGreatDoor
/- within, May, End, Has, toField, toNext, field, walked. -/
namespace Go.Proofs.YtleehhpodgbomaaGreatDoor
open Go.RowKit Go.MapKept
namespace Slo
open Lin

theorem within_any (w : World) (n a b : Int) :
    Calls Tryz.prog 99 #[.int .i64 n, .int .i64 a, .int .i64 b] w fun e w' => e = .returned (.bool (decide (a ≤ n ∧ n ≤ b))) ∧ w = w' := by
  go_enter Tryz.func99, Tryz.ntmps99
  go_wp2
  · rename_i h
    go_ret
    exact ⟨by simp [h], rfl⟩
  · rename_i h
    go_ret
    refine ⟨?_, rfl⟩
    have : ¬ a ≤ n := by omega
    simp [this]

theorem toField_any (w : World) (n : Int) (q : Nat) (hn : n = nx q) (hq : q < 65536) :
    Calls Tryz.prog 64 #[.int .i64 n] w fun e w' => e = .returned (.int .i64 (q : Int)) ∧ w = w' := by
  by_cases h : q = 65535
  · subst h
    rw [nx_none] at hn
    subst hn
    go_enter Tryz.func64, Tryz.ntmps64
    go_wp2
    go_ret
    exact ⟨rfl, rfl⟩
  · rw [nx_some h] at hn
    subst hn
    have h1 : ¬ (q : Int) = -1 := by omega
    go_enter Tryz.func64, Tryz.ntmps64
    go_wp2
    go_ret
    exact ⟨rfl, rfl⟩

theorem toNext_any (w : World) (q : Nat) :
    Calls Tryz.prog 96 #[.int .i64 (q : Int)] w fun e w' => e = .returned (.int .i64 (nx q)) ∧ w = w' := by
  by_cases h : q = 65535
  · subst h
    rw [nx_none]
    go_enter Tryz.func96, Tryz.ntmps96
    go_wp2
    go_ret
    exact ⟨rfl, rfl⟩
  · rw [nx_some h]
    have h1 : ¬ (q : Int) = 65535 := by omega
    go_enter Tryz.func96, Tryz.ntmps96
    go_wp2
    go_ret
    exact ⟨rfl, rfl⟩

theorem field_any (w : World) (n : Nat) (h : n < 65536) :
    Calls Tryz.prog 63 #[.int .i64 (n : Int)] w fun r w' => r = .returned (.agg #[.int .i64 16, .int .u64 (n : Int)]) ∧ Below w.heap.size w w' := by
  go_enter Tryz.func63, Tryz.ntmps63
  go_wp2
  refine bodyPost_ret (v := .agg #[.int .i64 16, .int .u64 (n : Int)]) ?_ rfl ⟨rfl, ?_⟩
  · simp [results, Tryz.results63, go_sem]
  · first
    | exact (Below.refl _ _).alloc (Nat.le_refl _) _
    | exact (((Below.refl _ _).alloc (Nat.le_refl _) _).setCell (by simp) _).setCell (by simp) _

set_option maxHeartbeats 1000000 in
theorem may_any (w : World) (s c n : Int) :
    Calls Tryz.prog 59 #[.agg #[.int .i64 s, .int .i64 c, .int .i64 n]] w fun r w' => r = .returned (.bool (may s c n)) ∧ Below w.heap.size w w' := by
  have HB := Lib.hid ((Below.refl w.heap.size w).alloc (Nat.le_refl _) (.cells #[.int .i64 s, .int .i64 c, .int .i64 n] 42))
  have HS := Lib.hid (fun w => within_any w s 0 65533)
  have HN := Lib.hid (fun w => within_any w n (-1) 65533)
  by_cases h1 : 0 ≤ s ∧ s ≤ 65533
  · have h11 := h1.1
    have h12 := h1.2
    have HC := Lib.hid (fun w => within_any w c 1 (65534 - s))
    by_cases h2 : 1 ≤ c ∧ c ≤ 65534 - s
    · have HE := Lib.hid (show may s c n = decide (-1 ≤ n ∧ n ≤ 65533) by
        rw [Bool.eq_iff_iff, decide_eq_true_iff]
        exact ⟨fun h => (may_iff.1 h).2.2, fun h => may_iff.2 ⟨h1, h2, h⟩⟩)
      have H1 := Lib.hid (decide_eq_true h1)
      have H2 := Lib.hid (decide_eq_true h2)
      clear h1 h2
      go_enter Tryz.func59, Tryz.ntmps59
      go_wp2_with fail
      refine (HS.out _).mono ?_
      rintro e w' ⟨rfl, rfl⟩
      rw [H1.out]
      go_wp2_with fail
      refine (HC.out _).mono ?_
      rintro e w' ⟨rfl, rfl⟩
      rw [H2.out]
      go_wp2_with fail
      refine (HN.out _).mono ?_
      rintro e w' ⟨rfl, rfl⟩
      rw [← HE.out]
      go_wp2
      go_ret
      exact ⟨rfl, HB.out⟩
    · have HE := Lib.hid (show may s c n = false by unfold may May; exact decide_eq_false (fun h => h2 h.2.1))
      have H1 := Lib.hid (decide_eq_true h1)
      have H2 := Lib.hid (decide_eq_false h2)
      clear h1 h2
      go_enter Tryz.func59, Tryz.ntmps59
      go_wp2_with fail
      refine (HS.out _).mono ?_
      rintro e w' ⟨rfl, rfl⟩
      rw [H1.out]
      go_wp2_with fail
      refine (HC.out _).mono ?_
      rintro e w' ⟨rfl, rfl⟩
      rw [H2.out]
      go_wp2
      go_ret
      exact ⟨by rw [HE.out]; rfl, HB.out⟩
  · have HE := Lib.hid (show may s c n = false by unfold may May; exact decide_eq_false (fun h => h1 h.1))
    have H1 := Lib.hid (decide_eq_false h1)
    clear h1
    go_enter Tryz.func59, Tryz.ntmps59
    go_wp2_with fail
    refine (HS.out _).mono ?_
    rintro e w' ⟨rfl, rfl⟩
    rw [H1.out]
    go_wp2
    go_ret
    exact ⟨by rw [HE.out]; rfl, HB.out⟩

/-- one behind the last block -/
def fin (s c n : Int) : Int := if may s c n = true then s + c else 0

end Slo
end Go.Proofs.YtleehhpodgbomaaGreatDoor
/- A region that draws, walked by its states: which operations have come up, and what holds then. A struct of two cells of the call's own. -/
namespace Go.Proofs.YtleehhpodgbomaaGreatDoor
open Go.RowKit Go.MapKept
namespace Lin

section
variable {P : Program} {ops : Array Oper} {Q : Exit → Act → World → Prop} {md : Region.Mode} {S : World → Prop}

/-- a region by states: in state s the operations L s have come up, n s are left ahead of the last m, rdy s may come up, and I holds -/
theorem any_states {σ : Type} (L : σ → Array Bool) (n : σ → Nat) (rdy : σ → List Nat) (I : σ → Act → World → Prop) (m : Nat)
    (ready : ∀ s a w, I s a w → n s ≠ 0 → Region.ready md ops (L s) = rdy s ∧ rdy s ≠ [])
    (step : ∀ s a w, I s a w → n s ≠ 0 → ∀ i ∈ rdy s, wpOp P ops Q i (fun a' w' => ∃ s', L s' = (L s).setIfInBounds i true ∧ n s = n s' + 1 ∧ S w' ∧ I s' a' w') a w)
    (last : ∀ s a w, I s a w → n s = 0 → wpAnyH P md ops Q S m (L s) a w) :
    ∀ k s a w, n s = k → I s a w → wpAnyH P md ops Q S (k + m) (L s) a w := by
  intro k
  induction k with
  | zero =>
    intro s a w hn hI
    rw [Nat.zero_add]
    exact last s a w hI hn
  | succ k ih =>
    intro s a w hn hI
    have h0 : n s ≠ 0 := by omega
    obtain ⟨hr, hne⟩ := ready s a w hI h0
    rw [show k + 1 + m = (k + m) + 1 by omega]
    refine wpAnyH_all hr hne (fun i hi => wpOp_mono (fun a' w' h => ?_) (step s a w hI h0 i hi))
    obtain ⟨s', hL, hn', hS, hI'⟩ := h
    exact ⟨hS, hL ▸ ih s' a' w' (by omega) hI'⟩

/-- one operation that comes up; the way back is hidden -/
theorem op_step {i : Nat} {o : Oper} {K : Act → World → Prop} {a : Act} {w : World} (ho : ops[i]? = some o)
    (h : ∀ K' : Act → World → Prop, Hid (∀ a w, K a w → K' a w) → if Region.wanted o (yielded ops a.tmps) = true then Oper.wp P o a w K' Q else K' (a.put o.dst undef) w) : wpOp P ops Q i K a w :=
  wpOp_step ho (fun K' hK => h K' (Lib.hid hK))
end

/-- two cells of the call's own in block b: an int, a word -/
structure Fw (w : World) (b : Nat) (n : Int) (v : Nat) : Prop where
  lt : b < w.heap.size
  c0 : w.cell? ⟨b, 0, none⟩ = some (.int .i64 n)
  c1 : w.cell? ⟨b, 1, none⟩ = some (.int .u64 (v : Int))
  f : ∀ o, w.frozen? ⟨b, o, none⟩ = false
theorem Fw.keep {w w' : World} {b v : Nat} {n : Int} (h : Fw w b n v) (hb : Below w.heap.size w w') : Fw w' b n v :=
  ⟨Nat.lt_of_lt_of_le h.lt hb.size, (hb.cell (p := ⟨b, 0, none⟩) h.lt).trans h.c0, (hb.cell (p := ⟨b, 1, none⟩) h.lt).trans h.c1, fun o => (hb.frozen (p := ⟨b, o, none⟩) h.lt).trans (h.f o)⟩
theorem Fw.drew {w : World} {b v : Nat} {n : Int} (h : Fw w b n v) : Fw w.drew b n v := ⟨h.lt, h.c0, h.c1, h.f⟩
theorem fw_new (w : World) (n : Int) (v : Nat) (t : TypeId) : Fw (w.alloc (.cells #[.int .i64 n, .int .u64 (v : Int)] t)) w.heap.size n v :=
  ⟨by simp, World.cell?_alloc_mark w _ t _ 0, World.cell?_alloc_mark w _ t _ 1, fun o => (World.rowIs_alloc w #[.int .i64 n, .int .u64 (v : Int)] t (fun i => if i = 0 then .int .i64 n else .int .u64 (v : Int)) (fun i hi => by
    have : i < 2 := hi
    match i, this with
    | 0, _ => rfl
    | 1, _ => rfl)).frozen o⟩
theorem Fw.set {w : World} {b v : Nat} {n : Int} (h : Fw w b n v) (m : Int) (u : Nat) : Fw ((w.setCell ⟨b, 0, none⟩ (.int .i64 m)).setCell ⟨b, 1, none⟩ (.int .u64 (u : Int))) b m u :=
  ⟨by simpa using h.lt, by rw [World.cell?_setCell_other _ _ _ _ (by simp)]; exact World.cell?_setCell_same _ _ _ h.c0, World.cell?_setCell_same _ _ _ ((World.cell?_setCell_other _ _ _ _ (by simp)).trans h.c1), fun o => by rw [World.frozen?_setCell, World.frozen?_setCell]; exact h.f o⟩
theorem Fw.other {w : World} {b v d : Nat} {n : Int} (h : Fw w b n v) (hd : b ≠ d) (x y : Value) : Fw ((w.setCell ⟨d, 0, none⟩ x).setCell ⟨d, 1, none⟩ y) b n v :=
  ⟨by simpa using h.lt, (cell_set_other hd _).trans ((cell_set_other hd _).trans h.c0), (cell_set_other hd _).trans ((cell_set_other hd _).trans h.c1), fun o => by rw [World.frozen?_setCell, World.frozen?_setCell]; exact h.f o⟩
theorem Box.other {w : World} {b d : Nat} {n m s : Int} (h : Box w b n m s) (hd : b ≠ d) (x y : Value) : Box ((w.setCell ⟨d, 0, none⟩ x).setCell ⟨d, 1, none⟩ y) b n m s :=
  ⟨by simpa using h.lt, (cell_set_other hd _).trans ((cell_set_other hd _).trans h.c0), (cell_set_other hd _).trans ((cell_set_other hd _).trans h.c1), (cell_set_other hd _).trans ((cell_set_other hd _).trans h.c2)⟩
end Lin
end Go.Proofs.YtleehhpodgbomaaGreatDoor
/- The program's word of a slot: Encode, walked. -/
namespace Go.Proofs.YtleehhpodgbomaaGreatDoor
open Go.RowKit Go.MapKept
namespace Slo
open Lin

theorem encode_no (w : World) (s c n : Int) (hm : may s c n = false) :
    Calls Tryz.prog 41 #[.agg #[.int .i64 s, .int .i64 c, .int .i64 n]] w fun r w' => r = .returned (.tuple #[.int .u64 0, .int .i64 1]) ∧ Below w.heap.size w w' := by
  have HM := Lib.hid (fun w => may_any w s c n)
  have HE := Lib.hid hm
  clear hm
  have HB := Lib.hid ((Below.refl w.heap.size w).alloc (Nat.le_refl _) (.cells #[.int .i64 s, .int .i64 c, .int .i64 n] 42))
  go_enter Tryz.func41, Tryz.ntmps41
  go_wp2_with fail
  refine (HM.out _).mono ?_
  rintro e w' ⟨rfl, hb⟩
  rw [HE.out]
  have HB1 := Lib.hid (HB.out.trans (hb.mono HB.out.size))
  clear hb
  go_wp2
  go_ret2
  exact ⟨rfl, HB1.out⟩

theorem fds_three (w : World) {n m q : Nat} (hn : n < 65536) (hm : m < 65536) (hq : q < 65536) : Pack.Fds (w.alloc (.cells #[.int .i64 16, .int .u64 (n : Int), .int .i64 16, .int .u64 (m : Int), .int .i64 16, .int .u64 (q : Int)] 126)) (some ⟨w.heap.size, 0, none⟩) [⟨16, n⟩, ⟨16, m⟩, ⟨16, q⟩] :=
  ⟨fun f hf => by
    simp only [List.mem_cons, List.not_mem_nil, or_false] at hf
    rcases hf with rfl | rfl | rfl <;> exact ⟨by simp only; omega, by simp only; omega, by simp only; omega⟩, by simp, fun j hj => by
    have : j < 3 := hj
    match j, this with
    | 0, _ => exact ⟨w.heap.size, 0, rfl, by simp, Pack.alloc_cell _ _ _ _, Pack.alloc_cell _ _ _ _⟩
    | 1, _ => exact ⟨w.heap.size, 0, rfl, by simp, Pack.alloc_cell _ _ _ _, Pack.alloc_cell _ _ _ _⟩
    | 2, _ => exact ⟨w.heap.size, 0, rfl, by simp, Pack.alloc_cell _ _ _ _, Pack.alloc_cell _ _ _ _⟩⟩
theorem fds_four (w : World) {n m q s : Nat} (hn : n < 65536) (hm : m < 65536) (hq : q < 65536) (hs : s < 65536) : Pack.Fds (w.alloc (.cells #[.int .i64 16, .int .u64 (n : Int), .int .i64 16, .int .u64 (m : Int), .int .i64 16, .int .u64 (q : Int), .int .i64 16, .int .u64 (s : Int)] 126)) (some ⟨w.heap.size, 0, none⟩) [⟨16, n⟩, ⟨16, m⟩, ⟨16, q⟩, ⟨16, s⟩] :=
  ⟨fun f hf => by
    simp only [List.mem_cons, List.not_mem_nil, or_false] at hf
    rcases hf with rfl | rfl | rfl | rfl <;> exact ⟨by simp only; omega, by simp only; omega, by simp only; omega⟩, by simp, fun j hj => by
    have : j < 4 := hj
    match j, this with
    | 0, _ => exact ⟨w.heap.size, 0, rfl, by simp, Pack.alloc_cell _ _ _ _, Pack.alloc_cell _ _ _ _⟩
    | 1, _ => exact ⟨w.heap.size, 0, rfl, by simp, Pack.alloc_cell _ _ _ _, Pack.alloc_cell _ _ _ _⟩
    | 2, _ => exact ⟨w.heap.size, 0, rfl, by simp, Pack.alloc_cell _ _ _ _, Pack.alloc_cell _ _ _ _⟩
    | 3, _ => exact ⟨w.heap.size, 0, rfl, by simp, Pack.alloc_cell _ _ _ _, Pack.alloc_cell _ _ _ _⟩⟩

theorem three_any (w : World) {n m q : Nat} (hn : n < 65536) (hm : m < 65536) (hq : q < 65536) : Calls Tryz.prog 65 #[.slice (some ⟨w.heap.size, 0, none⟩) 3 3] (w.alloc (.cells #[.int .i64 16, .int .u64 (n : Int), .int .i64 16, .int .u64 (m : Int), .int .i64 16, .int .u64 (q : Int)] 126)) fun e w' => e = .returned (.tuple #[.int .u64 (nums n m q : Nat), .bool true]) ∧ Below w.heap.size w w' := by
  refine (Pack.pack_any _ 3 _ (fds_three w hn hm hq)).mono ?_
  rintro e w' ⟨rfl, hb⟩
  rw [pk_three hn hm hq]
  have hb0 := (Below.refl w.heap.size w).alloc (Nat.le_refl _) (.cells #[.int .i64 16, .int .u64 (n : Int), .int .i64 16, .int .u64 (m : Int), .int .i64 16, .int .u64 (q : Int)] 126)
  exact ⟨rfl, hb0.trans (hb.mono hb0.size)⟩
theorem four_any (w : World) {n m q s : Nat} (hn : n < 65536) (hm : m < 65536) (hq : q < 65536) (hs : s < 65536) : Calls Tryz.prog 65 #[.slice (some ⟨w.heap.size, 0, none⟩) 4 4] (w.alloc (.cells #[.int .i64 16, .int .u64 (n : Int), .int .i64 16, .int .u64 (m : Int), .int .i64 16, .int .u64 (q : Int), .int .i64 16, .int .u64 (s : Int)] 126)) fun e w' => e = .returned (.tuple #[.int .u64 (nums n m q + 281474976710656 * s : Nat), .bool true]) ∧ Below w.heap.size w w' := by
  refine (Pack.pack_any _ 4 _ (fds_four w hn hm hq hs)).mono ?_
  rintro e w' ⟨rfl, hb⟩
  rw [pk_four hn hm hq hs]
  have hb0 := (Below.refl w.heap.size w).alloc (Nat.le_refl _) (.cells #[.int .i64 16, .int .u64 (n : Int), .int .i64 16, .int .u64 (m : Int), .int .i64 16, .int .u64 (q : Int), .int .i64 16, .int .u64 (s : Int)] 126)
  exact ⟨rfl, hb0.trans (hb.mono hb0.size)⟩

/-- one word in a new row -/
theorem one_wds (w : World) {x : Nat} (h : x < 18446744073709551616) : Pack.Wds (w.alloc (.cells #[.int .u64 (x : Int)] 71)) (some ⟨w.heap.size, 0, none⟩) [x] :=
  ⟨fun y hy => by
    obtain rfl : y = x := by simpa using hy
    exact h, by simp, fun j hj => by
    have : j < 1 := hj
    match j, this with
    | 0, _ => exact ⟨w.heap.size, 0, rfl, by simp, Pack.alloc_cell _ _ _ _⟩⟩

/-- a word's bytes -/
theorem bytes_one (w : World) {x : Nat} (h : x < 18446744073709551616) : Calls Tryz.prog 67 #[.slice (some ⟨w.heap.size, 0, none⟩) 1 1] (w.alloc (.cells #[.int .u64 (x : Int)] 71)) fun e w' => ∃ (b o gc : Nat), e = .returned (.slice (some ⟨b, o, none⟩) 8 gc) ∧ 8 ≤ gc ∧ Crc.Bts w' (some ⟨b, o, none⟩) (six x) ∧ Below w.heap.size w w' := by
  refine (Pack.bytes_any _ 1 _ (one_wds w h) (by simp)).mono ?_
  rintro e w' ⟨G, gc, rfl, hc, hw, hb⟩
  have hb0 := (Below.refl w.heap.size w).alloc (Nat.le_refl _) (.cells #[.int .u64 (x : Int)] 71)
  have e8 : Pack.wflat [x] = Pack.wb x := by simp [Pack.wflat]
  rw [e8] at hw
  obtain ⟨b, o, rfl, _, _⟩ := hw.at' 0 (by rw [Pack.wb_len]; omega)
  refine ⟨b, o, gc, rfl, hc, ⟨six_byt x, by rw [six_len]; omega, fun j hj => ?_⟩, hb0.trans (hb.mono hb0.size)⟩
  rw [six_len] at hj
  obtain ⟨b', o', e, hlt, hc⟩ := hw.at' j (by rw [Pack.wb_len]; omega)
  refine ⟨b', o', e, hlt, hc.trans ?_⟩
  have : (six x)[j]'(by rw [six_len]; exact hj) = (Pack.wb x)[j]'(by rw [Pack.wb_len]; omega) := by
    unfold six
    rw [List.getElem_take]
    rfl
  rw [this]

/-- a value, once it is there -/
def on (b : Bool) (v : Value) : Value := bif b then v else undef
theorem on_true (v : Value) : on true v = v := rfl
theorem on_false (v : Value) : on false v = undef := rfl
/-- a field -/
def fv (n : Nat) : Value := .agg #[.int .i64 16, .int .u64 (n : Int)]
/-- where a variable lies -/
def ptr (p : Nat) : Value := .pointer (some ⟨p, 0, none⟩)

/-- the three variables of Encode: which of them are made, and where they lie -/
structure St (w0 : World) (N : Nat) (s c n : Int) (x y z : Bool) (p1 p2 p3 : Nat) (W : World) : Prop where
  box : Box W N s c n
  below : Below N w0 W
  f1 : x = true → Fw W p1 0 0 ∧ N < p1
  f2 : y = true → Fw W p2 0 0 ∧ N < p2
  f3 : z = true → Fw W p3 0 0 ∧ N < p3
  d12 : x = true → y = true → p1 ≠ p2
  d13 : x = true → z = true → p1 ≠ p3
  d23 : y = true → z = true → p2 ≠ p3
section
variable {w0 W W' : World} {N p1 p2 p3 : Nat} {s c n : Int} {x y z : Bool}
theorem St.keep (h : St w0 N s c n x y z p1 p2 p3 W) (hb : Below W.heap.size W W') : St w0 N s c n x y z p1 p2 p3 W' :=
  ⟨h.box.keep hb, h.below.trans (hb.mono (Nat.le_of_lt h.box.lt)), fun e => ⟨(h.f1 e).1.keep hb, (h.f1 e).2⟩, fun e => ⟨(h.f2 e).1.keep hb, (h.f2 e).2⟩, fun e => ⟨(h.f3 e).1.keep hb, (h.f3 e).2⟩, h.d12, h.d13, h.d23⟩
theorem St.new1 (h : St w0 N s c n x y z p1 p2 p3 W) (t : TypeId) : St w0 N s c n true y z W.heap.size p2 p3 (W.alloc (.cells #[.int .i64 0, .int .u64 0] t)) := by
  have hb := (Below.refl W.heap.size W).alloc (Nat.le_refl _) (.cells #[.int .i64 0, .int .u64 0] t)
  have hk := h.keep hb
  exact ⟨hk.box, hk.below, fun _ => ⟨fw_new W 0 0 t, h.box.lt⟩, hk.f2, hk.f3, fun _ e => Nat.ne_of_gt (h.f2 e).1.lt, fun _ e => Nat.ne_of_gt (h.f3 e).1.lt, hk.d23⟩
theorem St.new2 (h : St w0 N s c n x y z p1 p2 p3 W) (t : TypeId) : St w0 N s c n x true z p1 W.heap.size p3 (W.alloc (.cells #[.int .i64 0, .int .u64 0] t)) := by
  have hb := (Below.refl W.heap.size W).alloc (Nat.le_refl _) (.cells #[.int .i64 0, .int .u64 0] t)
  have hk := h.keep hb
  exact ⟨hk.box, hk.below, hk.f1, fun _ => ⟨fw_new W 0 0 t, h.box.lt⟩, hk.f3, fun e _ => Nat.ne_of_lt (h.f1 e).1.lt, hk.d13, fun _ e => Nat.ne_of_gt (h.f3 e).1.lt⟩
theorem St.new3 (h : St w0 N s c n x y z p1 p2 p3 W) (t : TypeId) : St w0 N s c n x y true p1 p2 W.heap.size (W.alloc (.cells #[.int .i64 0, .int .u64 0] t)) := by
  have hb := (Below.refl W.heap.size W).alloc (Nat.le_refl _) (.cells #[.int .i64 0, .int .u64 0] t)
  have hk := h.keep hb
  exact ⟨hk.box, hk.below, hk.f1, hk.f2, fun _ => ⟨fw_new W 0 0 t, h.box.lt⟩, hk.d12, fun e _ => Nat.ne_of_lt (h.f1 e).1.lt, fun e _ => Nat.ne_of_lt (h.f2 e).1.lt⟩
end

/-- the states of the region of slot.go:47: how many calls are done, which variables are made -/
def lst (s : Nat × Bool × Bool × Bool) : Array Bool := #[true, true, Nat.blt 0 s.1, true, true, Nat.blt 1 s.1, true, true, Nat.blt 2 s.1, Nat.blt 3 s.1, s.2.1, s.2.2.1, s.2.2.2, false, false, false]
def left (s : Nat × Bool × Bool × Bool) : Nat := (4 - s.1) + ((!s.2.1).toNat + ((!s.2.2.1).toNat + (!s.2.2.2).toNat))
def calls : Nat → List Nat
  | 0 => [2]
  | 1 => [5]
  | 2 => [8]
  | 3 => [9]
  | _ => []
def rdy (s : Nat × Bool × Bool × Bool) : List Nat := calls s.1 ++ ((bif s.2.1 then [] else [10]) ++ ((bif s.2.2.1 then [] else [11]) ++ (bif s.2.2.2 then [] else [12])))
def act (N s c q : Nat) (n : Int) (k : Nat) (x y z : Bool) (p1 p2 p3 : Nat) : Act :=
  { tmps := #[.agg #[.int .i64 (s : Int), .int .i64 (c : Int), .int .i64 n], .pointer (some ⟨N, 0, none⟩), .int .u64 0, .int .i64 0, on x (ptr p1), on y (ptr p2), on z (ptr p3), undef, undef, undef, undef, undef, .agg #[.int .i64 (s : Int), .int .i64 (c : Int), .int .i64 n], .bool true, .bool false, .pointer (some ⟨N, 0, none⟩), .int .i64 (s : Int), on (Nat.blt 0 k) (fv s), .pointer (some ⟨N, 1, none⟩), .int .i64 (c : Int), on (Nat.blt 1 k) (fv c), .pointer (some ⟨N, 2, none⟩), .int .i64 n, on (Nat.blt 2 k) (.int .i64 (q : Int)), on (Nat.blt 3 k) (fv q), undef, undef, undef, undef, undef, undef, undef, undef, undef, undef, undef, undef, undef, undef, undef, undef, undef, undef, undef, undef, undef, undef, undef, undef, undef, undef], defers := [] }
theorem left_pos {k : Nat} {x y z : Bool} (hk : k ≤ 4) (h : left (k, x, y, z) = 0) : k = 4 ∧ x = true ∧ y = true ∧ z = true := by
  unfold left at h
  cases x <;> cases y <;> cases z <;> simp at h ⊢ <;> omega
theorem left_call {k : Nat} {x y z : Bool} (hk : k < 4) : left (k, x, y, z) = left (k + 1, x, y, z) + 1 := by
  unfold left
  simp only
  omega
theorem left_one (k : Nat) (y z : Bool) : left (k, false, y, z) = left (k, true, y, z) + 1 := by
  unfold left
  simp
  omega
theorem left_two (k : Nat) (x z : Bool) : left (k, x, false, z) = left (k, x, true, z) + 1 := by
  unfold left
  simp
  omega
theorem left_three (k : Nat) (x y : Bool) : left (k, x, y, false) = left (k, x, y, true) + 1 := by
  unfold left
  simp
  omega

set_option maxHeartbeats 2000000 in
set_option maxRecDepth 100000 in
theorem encode_yes (w : World) (s c q : Nat) (n : Int) (hn : n = nx q) (hm : may s c (nx q) = true) :
    Calls Tryz.prog 41 #[.agg #[.int .i64 (s : Int), .int .i64 (c : Int), .int .i64 n]] w fun r w' => r = .returned (.tuple #[.int .u64 (wd s c q : Nat), .int .i64 0]) ∧ Below w.heap.size w w' := by
  obtain ⟨h1, h2, h3, h4⟩ := may_lt hm
  have hs64 : s < 65536 := by omega
  have hc64 : c < 65536 := by omega
  have HM := Lib.hid (fun w => may_any w s c n)
  have HE := Lib.hid (show may s c n = true by rw [hn]; exact hm)
  have HT := Lib.hid (fun w => toField_any w n q hn h4)
  have HF1 := Lib.hid (fun w => field_any w s hs64)
  have HF2 := Lib.hid (fun w => field_any w c hc64)
  have HF3 := Lib.hid (fun w => field_any w q h4)
  have HF4 := Lib.hid (fun w => field_any w (sum s c q) (sum_lt s c q))
  have HP3 := Lib.hid (fun w => three_any w hs64 hc64 h4)
  have HP4 := Lib.hid (fun w => four_any w hs64 hc64 h4 (sum_lt s c q))
  have hnl := nums_lt hs64 hc64 h4
  have HBY := Lib.hid (fun w => bytes_one w (x := nums s c q) (by omega))
  have hsl := sum_lt s c q
  clear hm hn h1 h2 h3
  have HB := Lib.hid ((Below.refl w.heap.size w).alloc (Nat.le_refl _) (.cells #[.int .i64 (s : Int), .int .i64 (c : Int), .int .i64 n] 42))
  have HX := Lib.hid (boxed w s c n 42)
  go_enter Tryz.func41, Tryz.ntmps41
  go_wp2_with fail
  refine (HM.out _).mono ?_
  rintro e w1 ⟨rfl, hb⟩
  rw [HE.out]
  have HB1 := Lib.hid (HB.out.trans (hb.mono HB.out.size))
  have HX1 := Lib.hid (HX.out.keep hb)
  clear hb HX HB HM HE
  have hk0 := HX1.out.c0
  have hk1 := HX1.out.c1
  have hk2 := HX1.out.c2
  have hsz : w.heap.size < w1.heap.size := HX1.out.lt
  go_wp2
  refine wp_region_held_drew (S := (fun W' => Box W' w.heap.size s c n)) (by kernel_rfl) HX1.out.drew (fun hHeld => ?_)
  clear hk0 hk1 hk2
  refine take_yes 0 15 (.pointer (some ⟨w.heap.size, 0, none⟩)) rfl rfl (by kernel_rfl) (by kernel_rfl) (by kernel_rfl) (fun _ _ _ h => h) rfl ?_ (by assumption) ?_
  · intro W hSw
    try dsimp only at hSw
    go_simp
  simp only [Act.put, List.setIfInBounds_toArray, List.set_cons_zero, List.set_cons_succ]
  refine take_yes 1 16 (.int .i64 (s : Int)) rfl rfl (by kernel_rfl) (by kernel_rfl) (by kernel_rfl) (fun _ _ _ h => h) rfl ?_ (by assumption) ?_
  · intro W hSw
    try dsimp only at hSw
    have hv := hSw.c0
    go_simp
  simp only [Act.put, List.setIfInBounds_toArray, List.set_cons_zero, List.set_cons_succ]
  refine take_yes 3 18 (.pointer (some ⟨w.heap.size, 1, none⟩)) rfl rfl (by kernel_rfl) (by kernel_rfl) (by kernel_rfl) (fun _ _ _ h => h) rfl ?_ (by assumption) ?_
  · intro W hSw
    try dsimp only at hSw
    go_simp
  simp only [Act.put, List.setIfInBounds_toArray, List.set_cons_zero, List.set_cons_succ]
  refine take_yes 4 19 (.int .i64 (c : Int)) rfl rfl (by kernel_rfl) (by kernel_rfl) (by kernel_rfl) (fun _ _ _ h => h) rfl ?_ (by assumption) ?_
  · intro W hSw
    try dsimp only at hSw
    have hv := hSw.c1
    go_simp
  simp only [Act.put, List.setIfInBounds_toArray, List.set_cons_zero, List.set_cons_succ]
  refine take_yes 6 21 (.pointer (some ⟨w.heap.size, 2, none⟩)) rfl rfl (by kernel_rfl) (by kernel_rfl) (by kernel_rfl) (fun _ _ _ h => h) rfl ?_ (by assumption) ?_
  · intro W hSw
    try dsimp only at hSw
    go_simp
  simp only [Act.put, List.setIfInBounds_toArray, List.set_cons_zero, List.set_cons_succ]
  refine take_yes 7 22 (.int .i64 n) rfl rfl (by kernel_rfl) (by kernel_rfl) (by kernel_rfl) (fun _ _ _ h => h) rfl ?_ (by assumption) ?_
  · intro W hSw
    try dsimp only at hSw
    have hv := hSw.c2
    go_simp
  simp only [Act.put, List.setIfInBounds_toArray, List.set_cons_zero, List.set_cons_succ]
  refine any_states (σ := Nat × Bool × Bool × Bool) lst left rdy (fun st a W => st.1 ≤ 4 ∧ ∃ p1 p2 p3, a = act w.heap.size s c q n st.1 st.2.1 st.2.2.1 st.2.2.2 p1 p2 p3 ∧ St w w.heap.size s c n st.2.1 st.2.2.1 st.2.2.2 p1 p2 p3 W) 3 ?_ ?_ ?_ 7 (0, false, false, false) _ _ rfl ⟨by omega, 0, 0, 0, rfl, HX1.out.drew, HB1.out.drew, (fun e => by cases e), (fun e => by cases e), (fun e => by cases e), (fun e => by cases e), (fun e => by cases e), (fun e => by cases e)⟩
  · rintro ⟨k, x, y, z⟩ a W ⟨hk, _⟩ hn
    have hk' : k = 0 ∨ k = 1 ∨ k = 2 ∨ k = 3 ∨ k = 4 := by simp only at hk; omega
    clear hk
    rcases hk' with rfl | rfl | rfl | rfl | rfl <;> cases x <;> cases y <;> cases z <;> first | exact absurd rfl hn | exact ⟨by kernel_rfl, by decide⟩
  · rintro ⟨k, x, y, z⟩ a W ⟨hk, p1, p2, p3, rfl, hst⟩ hn i hi
    clear hn
    simp only [rdy, List.mem_append] at hi hst hk ⊢
    have HS := Lib.hid hst
    clear hst
    rcases hi with hi | hi | hi | hi
    · have hk' : k = 0 ∨ k = 1 ∨ k = 2 ∨ k = 3 ∨ k = 4 := by omega
      clear hk
      rcases hk' with rfl | rfl | rfl | rfl | rfl
      · obtain rfl : i = 2 := by simpa [calls] using hi
        refine op_step rfl (fun K hK => ?_)
        simp only [act, Nat.blt, Nat.ble, on_false]
        go_simp
        go_at_call 63
        with_reducible refine (HF1.out _).mono ?_
        rintro e W' ⟨rfl, hb⟩
        exact hK.out _ _ ⟨(1, x, y, z), rfl, left_call (by omega), (HS.out.keep hb).box, by omega, p1, p2, p3, rfl, (HS.out.keep hb)⟩
      · obtain rfl : i = 5 := by simpa [calls] using hi
        refine op_step rfl (fun K hK => ?_)
        simp only [act, Nat.blt, Nat.ble, on_true, on_false]
        go_simp
        go_at_call 63
        with_reducible refine (HF2.out _).mono ?_
        rintro e W' ⟨rfl, hb⟩
        exact hK.out _ _ ⟨(2, x, y, z), rfl, left_call (by omega), (HS.out.keep hb).box, by omega, p1, p2, p3, rfl, (HS.out.keep hb)⟩
      · obtain rfl : i = 8 := by simpa [calls] using hi
        refine op_step rfl (fun K hK => ?_)
        simp only [act, Nat.blt, Nat.ble, on_true, on_false]
        go_simp
        go_at_call 64
        with_reducible refine (HT.out _).mono ?_
        rintro e W' ⟨rfl, rfl⟩
        exact hK.out _ _ ⟨(3, x, y, z), rfl, left_call (by omega), HS.out.box, by omega, p1, p2, p3, rfl, HS.out⟩
      · obtain rfl : i = 9 := by simpa [calls] using hi
        refine op_step rfl (fun K hK => ?_)
        simp only [act, Nat.blt, Nat.ble, on_true, on_false]
        go_simp
        go_at_call 63
        with_reducible refine (HF3.out _).mono ?_
        rintro e W' ⟨rfl, hb⟩
        exact hK.out _ _ ⟨(4, x, y, z), rfl, left_call (by omega), (HS.out.keep hb).box, by omega, p1, p2, p3, rfl, (HS.out.keep hb)⟩
      · simp [calls] at hi
    · cases x with
      | true => simp at hi
      | false =>
        obtain rfl : i = 10 := by simpa using hi
        refine op_step rfl (fun K hK => ?_)
        simp only [act]
        go_simp
        exact hK.out _ _ ⟨(k, true, y, z), rfl, left_one _ _ _, (HS.out.new1 _).box, hk, W.heap.size, p2, p3, rfl, HS.out.new1 _⟩
    · cases y with
      | true => simp at hi
      | false =>
        obtain rfl : i = 11 := by simpa using hi
        refine op_step rfl (fun K hK => ?_)
        simp only [act]
        go_simp
        exact hK.out _ _ ⟨(k, x, true, z), rfl, left_two _ _ _, (HS.out.new2 _).box, hk, p1, W.heap.size, p3, rfl, HS.out.new2 _⟩
    · cases z with
      | true => simp at hi
      | false =>
        obtain rfl : i = 12 := by simpa using hi
        refine op_step rfl (fun K hK => ?_)
        simp only [act]
        go_simp
        exact hK.out _ _ ⟨(k, x, y, true), rfl, left_three _ _ _, (HS.out.new3 _).box, hk, p1, p2, W.heap.size, rfl, HS.out.new3 _⟩
  · rintro ⟨k, x, y, z⟩ a W ⟨hk, p1, p2, p3, rfl, hst⟩ hn
    obtain ⟨rfl, rfl, rfl, rfl⟩ := left_pos hk hn
    clear hk hn
    have HS := Lib.hid hst
    clear hst
    simp only [act, Nat.blt, Nat.ble, on_true, ptr, fv]
    obtain ⟨ha1, hb1⟩ := HS.out.f1 rfl
    obtain ⟨ha2, hb2⟩ := HS.out.f2 rfl
    obtain ⟨ha3, hb3⟩ := HS.out.f3 rfl
    have hd12 := HS.out.d12 rfl rfl
    have hd13 := HS.out.d13 rfl rfl
    have hd23 := HS.out.d23 rfl rfl
    have HBX := Lib.hid HS.out.box
    have HBL := Lib.hid HS.out.below
    have hg0 := ha1.c0
    have hg1 := ha1.c1
    have hg2 := ha1.f 0
    have hg3 := ha1.f 1
    have H1 := Lib.hid ha1
    have H2 := Lib.hid ha2
    have H3 := Lib.hid ha3
    clear ha1 ha2 ha3 HS hHeld
    refine wpAnyH_ready (rs := [13]) (by kernel_rfl) (by simp) ?_
    refine AllReadyH.cons rfl (fun K hK => ?_) AllReadyH.nil
    go_simp
    refine hK.out _ _ (HBX.out.other (by omega) _ _) (fun _ => ?_)
    clear hK K hg0 hg1 hg2 hg3
    have HBX_1 := Lib.hid (HBX.out.other (show w.heap.size ≠ p1 by omega) (.int .i64 16) (.int .u64 (s : Int)))
    have HBL_1 := Lib.hid ((HBL.out.setCell (p := ⟨p1, 0, none⟩) (Nat.le_of_lt hb1) (.int .i64 16)).setCell (p := ⟨p1, 1, none⟩) (Nat.le_of_lt hb1) (.int .u64 (s : Int)))
    have H1_1 := Lib.hid (H1.out.set 16 s)
    have H2_1 := Lib.hid (H2.out.other (show p2 ≠ p1 by omega) (.int .i64 16) (.int .u64 (s : Int)))
    have H3_1 := Lib.hid (H3.out.other (show p3 ≠ p1 by omega) (.int .i64 16) (.int .u64 (s : Int)))
    clear HBX HBL H1 H2 H3
    generalize (W.setCell ⟨p1, 0, none⟩ (.int .i64 16)).setCell ⟨p1, 1, none⟩ (.int .u64 (s : Int)) = W1 at *
    have hg0_1 := H2_1.out.c0
    have hg1_1 := H2_1.out.c1
    have hg2_1 := H2_1.out.f 0
    have hg3_1 := H2_1.out.f 1
    refine wpAnyH_ready (rs := [14]) (by kernel_rfl) (by simp) ?_
    refine AllReadyH.cons rfl (fun K hK => ?_) AllReadyH.nil
    go_simp
    refine hK.out _ _ (HBX_1.out.other (by omega) _ _) (fun _ => ?_)
    clear hK K hg0_1 hg1_1 hg2_1 hg3_1
    have HBX_2 := Lib.hid (HBX_1.out.other (show w.heap.size ≠ p2 by omega) (.int .i64 16) (.int .u64 (c : Int)))
    have HBL_2 := Lib.hid ((HBL_1.out.setCell (p := ⟨p2, 0, none⟩) (Nat.le_of_lt hb2) (.int .i64 16)).setCell (p := ⟨p2, 1, none⟩) (Nat.le_of_lt hb2) (.int .u64 (c : Int)))
    have H1_2 := Lib.hid (H1_1.out.other (show p1 ≠ p2 by omega) (.int .i64 16) (.int .u64 (c : Int)))
    have H2_2 := Lib.hid (H2_1.out.set 16 c)
    have H3_2 := Lib.hid (H3_1.out.other (show p3 ≠ p2 by omega) (.int .i64 16) (.int .u64 (c : Int)))
    clear HBX_1 HBL_1 H1_1 H2_1 H3_1
    generalize (W1.setCell ⟨p2, 0, none⟩ (.int .i64 16)).setCell ⟨p2, 1, none⟩ (.int .u64 (c : Int)) = W2 at *
    have hg0_2 := H3_2.out.c0
    have hg1_2 := H3_2.out.c1
    have hg2_2 := H3_2.out.f 0
    have hg3_2 := H3_2.out.f 1
    refine wpAnyH_ready (rs := [15]) (by kernel_rfl) (by simp) ?_
    refine AllReadyH.cons rfl (fun K hK => ?_) AllReadyH.nil
    go_simp
    refine hK.out _ _ (HBX_2.out.other (by omega) _ _) (fun _ => ?_)
    clear hK K hg0_2 hg1_2 hg2_2 hg3_2
    have HBX_3 := Lib.hid (HBX_2.out.other (show w.heap.size ≠ p3 by omega) (.int .i64 16) (.int .u64 (q : Int)))
    have HBL_3 := Lib.hid ((HBL_2.out.setCell (p := ⟨p3, 0, none⟩) (Nat.le_of_lt hb3) (.int .i64 16)).setCell (p := ⟨p3, 1, none⟩) (Nat.le_of_lt hb3) (.int .u64 (q : Int)))
    have H1_3 := Lib.hid (H1_2.out.other (show p1 ≠ p3 by omega) (.int .i64 16) (.int .u64 (q : Int)))
    have H2_3 := Lib.hid (H2_2.out.other (show p2 ≠ p3 by omega) (.int .i64 16) (.int .u64 (q : Int)))
    have H3_3 := Lib.hid (H3_2.out.set 16 q)
    clear HBX_2 HBL_2 H1_2 H2_2 H3_2
    generalize (W2.setCell ⟨p3, 0, none⟩ (.int .i64 16)).setCell ⟨p3, 1, none⟩ (.int .u64 (q : Int)) = W3 at *
    refine wpAnyH_done (by kernel_rfl) ?_ _
    have hg0 := H1_3.out.c0
    have hg1 := H1_3.out.c1
    have hg2 := H2_3.out.c0
    have hg3 := H2_3.out.c1
    have hg4 := H3_3.out.c0
    have hg5 := H3_3.out.c1
    clear HBX_3 HF1 HF2 HF3 HT HX1 HB1 hsz
    go_wp2_with fail
    refine (HP3.out _).mono ?_
    rintro e W4 ⟨rfl, hb⟩
    have HBL_4 := Lib.hid (HBL_3.out.trans (hb.mono HBL_3.out.size))
    have H1_4 := Lib.hid (H1_3.out.keep hb)
    have H2_4 := Lib.hid (H2_3.out.keep hb)
    have H3_4 := Lib.hid (H3_3.out.keep hb)
    clear hb hg0 hg1 hg2 hg3 hg4 hg5 HBL_3 H1_3 H2_3 H3_3 HP3
    go_wp2_with fail
    refine (HBY.out _).mono ?_
    rintro e W5 ⟨b, o, gc, rfl, hgc, hbt, hb⟩
    have HBL_5 := Lib.hid (HBL_4.out.trans (hb.mono HBL_4.out.size))
    have H1_5 := Lib.hid (H1_4.out.keep hb)
    have H2_5 := Lib.hid (H2_4.out.keep hb)
    have H3_5 := Lib.hid (H3_4.out.keep hb)
    have hs16 := Crc.sum16_one gc 1 hbt
    rw [six_len, show Crc.S16 (six (nums s c q)) = sum s c q from rfl] at hs16
    have HS16 := Lib.hid hs16
    clear hb hbt hs16 HBL_4 H1_4 H2_4 H3_4 HBY
    go_wp2_with fail
    refine HS16.out.mono ?_
    rintro e w' ⟨rfl, rfl⟩
    have hba := (Below.refl W5.heap.size W5).alloc (Nat.le_refl _) (.cells #[.slice (some ⟨b, o, none⟩) 6 gc] 132)
    have HBL_6 := Lib.hid (HBL_5.out.trans (hba.mono HBL_5.out.size))
    have H1_6 := Lib.hid (H1_5.out.keep hba)
    have H2_6 := Lib.hid (H2_5.out.keep hba)
    have H3_6 := Lib.hid (H3_5.out.keep hba)
    clear hba HS16 HBL_5 H1_5 H2_5 H3_5
    generalize W5.alloc (.cells #[.slice (some ⟨b, o, none⟩) 6 gc] 132) = W6 at *
    have hg0 := H1_6.out.c0
    have hg1 := H1_6.out.c1
    have hg2 := H2_6.out.c0
    have hg3 := H2_6.out.c1
    have hg4 := H3_6.out.c0
    have hg5 := H3_6.out.c1
    have hws : IntKind.wrap .i64 ((sum s c q : Nat) : Int) = ((sum s c q : Nat) : Int) := by rw [IntKind.wrap_i64]; omega
    go_wp2
    go_region_held3 (fun W' => (W'.cell? ⟨p1, 0, none⟩ = some (.int .i64 16) ∧ W'.cell? ⟨p1, 1, none⟩ = some (.int .u64 (s : Int))) ∧ (W'.cell? ⟨p2, 0, none⟩ = some (.int .i64 16) ∧ W'.cell? ⟨p2, 1, none⟩ = some (.int .u64 (c : Int))) ∧ (W'.cell? ⟨p3, 0, none⟩ = some (.int .i64 16) ∧ W'.cell? ⟨p3, 1, none⟩ = some (.int .u64 (q : Int)))) (go_keep)
      (first
      | (go_at_call 63
         with_reducible refine (HF4.out _).mono ?_
         rintro e W7 ⟨rfl, hb⟩
         have HBL_7 := Lib.hid (HBL_6.out.drew.trans (hb.mono HBL_6.out.drew.size))
         have H1_7 := Lib.hid (H1_6.out.drew.keep hb)
         have H2_7 := Lib.hid (H2_6.out.drew.keep hb)
         have H3_7 := Lib.hid (H3_6.out.drew.keep hb)
         have hh0 := H1_7.out.c0
         have hh1 := H1_7.out.c1
         have hh2 := H2_7.out.c0
         have hh3 := H2_7.out.c1
         have hh4 := H3_7.out.c0
         have hh5 := H3_7.out.c1
         clear hb)
      | (go_at_call 65
         with_reducible refine (HP4.out _).mono ?_
         rintro e W8 ⟨rfl, hb⟩
         have HBL_8 := Lib.hid (HBL_7.out.trans (hb.mono HBL_7.out.size))
         have H1_8 := Lib.hid (H1_7.out.keep hb)
         have H2_8 := Lib.hid (H2_7.out.keep hb)
         have H3_8 := Lib.hid (H3_7.out.keep hb)
         have hi0 := H1_8.out.c0
         have hi1 := H1_8.out.c1
         have hi2 := H2_8.out.c0
         have hi3 := H2_8.out.c1
         have hi4 := H3_8.out.c0
         have hi5 := H3_8.out.c1
         clear hb))
    go_wp2
    go_ret2
    exact ⟨rfl, HBL_8.out⟩
end Slo
end Go.Proofs.YtleehhpodgbomaaGreatDoor
/- Decode, walked. -/
namespace Go.Proofs.YtleehhpodgbomaaGreatDoor
open Go.RowKit Go.MapKept
namespace Slo
open Lin

/-- a slot, zero if there is none -/
def gv : Option (Nat × Nat × Nat) → Value
  | some (s, c, q) => .agg #[.int .i64 (s : Int), .int .i64 (c : Int), .int .i64 (nx q)]
  | none => .agg #[.int .i64 0, .int .i64 0, .int .i64 0]
/-- the error -/
def ev : Option (Nat × Nat × Nat) → Int
  | some _ => 0
  | none => 2

theorem nts_four (w : World) : Pack.Nts (w.alloc (.cells #[.int .i64 16, .int .i64 16, .int .i64 16, .int .i64 16] 3)) (some ⟨w.heap.size, 0, none⟩) [16, 16, 16, 16] :=
  ⟨fun f hf => by
    obtain rfl : f = 16 := by simpa using hf
    exact ⟨by decide, by decide⟩, by decide, fun j hj => by
    have : j < 4 := hj
    match j, this with
    | 0, _ => exact ⟨w.heap.size, 0, rfl, by simp, Pack.alloc_cell _ _ _ _⟩
    | 1, _ => exact ⟨w.heap.size, 0, rfl, by simp, Pack.alloc_cell _ _ _ _⟩
    | 2, _ => exact ⟨w.heap.size, 0, rfl, by simp, Pack.alloc_cell _ _ _ _⟩
    | 3, _ => exact ⟨w.heap.size, 0, rfl, by simp, Pack.alloc_cell _ _ _ _⟩⟩

theorem split_any (w : World) (N : Nat) (hN : w.heap.size = N) (x s c q : Nat) (h : x < 18446744073709551616) (hs : s = x % 65536) (hc : c = x / 65536 % 65536) (hq : q = x / 4294967296 % 65536) : Calls Tryz.prog 95 #[.int .u64 (x : Int), .slice (some ⟨N, 0, none⟩) 4 4] (w.alloc (.cells #[.int .i64 16, .int .i64 16, .int .i64 16, .int .i64 16] 3)) fun e w' => ∃ (b o gc : Nat), e = .returned (.tuple #[.slice (some ⟨b, o, none⟩) 4 gc, .bool true]) ∧ (b < w'.heap.size ∧ w'.cell? ⟨b, o, none⟩ = some (.int .u64 (s : Int)) ∧ w'.cell? ⟨b, o + 1, none⟩ = some (.int .u64 (c : Int)) ∧ w'.cell? ⟨b, o + 2, none⟩ = some (.int .u64 (q : Int))) ∧ Below w.heap.size w w' := by
  subst hN hs hc hq
  refine (Pack.split_any x h _ 4 _ (nts_four w)).mono ?_
  rintro e w' ⟨G, gc, rfl, hw, hb⟩
  have hb0 := (Below.refl w.heap.size w).alloc (Nat.le_refl _) (.cells #[.int .i64 16, .int .i64 16, .int .i64 16, .int .i64 16] 3)
  rw [split_four h] at hw ⊢
  simp only [Option.getD_some] at hw
  obtain ⟨b, o, rfl, hlt, hc0⟩ := hw.at' 0 (by simp)
  obtain ⟨b', o', e, _, hc1⟩ := hw.at' 1 (by simp)
  injection e with e
  injection e with e1 e2
  subst e1 e2
  obtain ⟨b', o', e, _, hc2⟩ := hw.at' 2 (by simp)
  injection e with e
  injection e with e1 e2
  subst e1 e2
  exact ⟨b, o, gc, rfl, ⟨hlt, hc0, hc1, hc2⟩, hb0.trans (hb.mono hb0.size)⟩

set_option maxHeartbeats 2000000 in
set_option maxRecDepth 100000 in
theorem decode_any (w : World) (x : Nat) (hx : x < 18446744073709551616) :
    Calls Tryz.prog 56 #[.int .u64 (x : Int)] w fun r w' => r = .returned (.tuple #[gv (dec x), .int .i64 (ev (dec x))]) ∧ Below w.heap.size w w' := by
  obtain ⟨s, hs⟩ : ∃ s, s = x % 65536 := ⟨_, rfl⟩
  obtain ⟨c, hc⟩ : ∃ c, c = x / 65536 % 65536 := ⟨_, rfl⟩
  obtain ⟨q, hq⟩ : ∃ q, q = x / 4294967296 % 65536 := ⟨_, rfl⟩
  have hs1 : s < 65536 := by omega
  have hc1 : c < 65536 := by omega
  have hq1 : q < 65536 := by omega
  have HB := Lib.hid ((Below.refl w.heap.size w).alloc (Nat.le_refl _) (.cells #[.int .i64 0, .int .i64 0, .int .i64 0] 42))
  have HX := Lib.hid (owned w 0 0 0 42)
  have HS := Lib.hid (split_any (w.alloc (.cells #[.int .i64 0, .int .i64 0, .int .i64 0] 42)) (w.heap.size + 1) (World.size_alloc _ _) x s c q hx hs hc hq)
  have HD := Lib.hid (show dec x = if may s c (nx q) = true ∧ x = wd s c q then some (s, c, q) else none by
    unfold dec
    simp only [← hs, ← hc, ← hq])
  have HTN := Lib.hid (fun w => toNext_any w q)
  obtain ⟨n, hn⟩ : ∃ n, n = nx q := ⟨_, rfl⟩
  rw [← hn] at HTN
  have HN := Lib.hid hn
  have hws : IntKind.wrap .i64 (s : Int) = (s : Int) := by rw [IntKind.wrap_i64]; omega
  have hwc : IntKind.wrap .i64 (c : Int) = (c : Int) := by rw [IntKind.wrap_i64]; omega
  have hwq : IntKind.wrap .i64 (q : Int) = (q : Int) := by rw [IntKind.wrap_i64]; omega
  clear hs hc hq hn
  go_enter Tryz.func56, Tryz.ntmps56
  go_wp2_with fail
  refine HS.out.mono ?_
  rintro e w1 ⟨b1, o1, gc, rfl, ⟨hb1, hq0, hq1, hq2⟩, hbw⟩
  have HX1 := Lib.hid (HX.out.keep hbw)
  have HB1 := Lib.hid (HB.out.trans (hbw.mono HB.out.size))
  have hz1 : w.heap.size < w1.heap.size := HX1.out.box.lt
  clear hbw HS HX HB
  go_wp2
  go_region_held3 (fun W' => W'.cell? ⟨b1, o1, none⟩ = some (.int .u64 (s : Int)) ∧ W'.cell? ⟨b1, o1 + 1, none⟩ = some (.int .u64 (c : Int)) ∧ W'.cell? ⟨b1, o1 + 2, none⟩ = some (.int .u64 (q : Int))) (go_keep)
    (first
    | (go_at_call 96
       with_reducible refine (HTN.out _).mono ?_
       rintro e w' ⟨rfl, rfl⟩))
  all_goals
    (have hba := (Below.refl w1.heap.size w1).alloc (Nat.le_refl _) (.cells #[.int .i64 (s : Int), .int .i64 (c : Int), .int .i64 n] 42)
     have HX2 := Lib.hid (HX1.out.keep hba).drew
     have HG2 := Lib.hid (boxed w1 s c n 42).drew
     have HB2 := Lib.hid (HB1.out.trans (hba.mono HB1.out.size)).drew
     clear hws hwc hwq hba HX1 HB1 hb1 hq0 hq1 hq2
     go_wp2_with fail
     generalize (w1.alloc (.cells #[.int .i64 (s : Int), .int .i64 (c : Int), .int .i64 n] 42)).drew = w2 at *
     generalize w1.heap.size = k1 at *
     cases hmay : may s c (nx q) with
     | false =>
       have HNO := Lib.hid (show dec x = none by rw [HD.out, if_neg (fun h => by rw [hmay] at h; simp at h)])
       refine (encode_no _ s c n (by rw [HN.out]; exact hmay)).mono ?_
       rintro e w3 ⟨rfl, hb3⟩
       have HX3 := Lib.hid (HX2.out.keep hb3)
       have HB3 := Lib.hid (HB2.out.trans (hb3.mono HB2.out.size))
       have hc0 := HX3.out.box.c0
       have hc1 := HX3.out.box.c1
       have hc2 := HX3.out.box.c2
       have hf0 := HX3.out.f 0
       have hf1 := HX3.out.f 1
       have hf2 := HX3.out.f 2
       clear hb3 hmay HX2 HB2 HD HN HG2
       go_wp2
       rw [HNO.out]
       refine bodyPost_ret (v := .tuple #[gv none, .int .i64 (ev none)]) ?_ rfl ⟨rfl, ?_⟩
       · simp [results, Tryz.results56, go_sem, gv, ev, hc0, hc1, hc2]
       · exact ((HB3.out.setCell (Nat.le_refl _) _).setCell (Nat.le_refl _) _).setCell (Nat.le_refl _) _
     | true =>
       refine (encode_yes _ s c q n HN.out hmay).mono ?_
       rintro e w3 ⟨rfl, hb3⟩
       have HX3 := Lib.hid (HX2.out.keep hb3)
       have HG3 := Lib.hid (HG2.out.keep hb3)
       have HB3 := Lib.hid (HB2.out.trans (hb3.mono HB2.out.size))
       have hc0 := HX3.out.box.c0
       have hc1 := HX3.out.box.c1
       have hc2 := HX3.out.box.c2
       have hf0 := HX3.out.f 0
       have hf1 := HX3.out.f 1
       have hf2 := HX3.out.f 2
       have hg0 := HG3.out.c0
       have hg1 := HG3.out.c1
       have hg2 := HG3.out.c2
       have HM := Lib.hid hmay
       clear hb3 hmay HX2 HB2 HG2
       by_cases hls : x = wd s c q
       · have HNO := Lib.hid (show dec x = some (s, c, q) by rw [HD.out, if_pos ⟨HM.out, hls⟩])
         have hbe : (((x : Nat) : Int) != ((wd s c q : Nat) : Int)) = false := by rw [← hls]; simp
         clear hls HD HM
         go_wp2
         rw [HNO.out]
         refine bodyPost_ret (v := .tuple #[gv (some (s, c, q)), .int .i64 (ev (some (s, c, q)))]) ?_ rfl ⟨rfl, ?_⟩
         · simp [results, Tryz.results56, go_sem, gv, ev, hc0, hc1, hc2, HN.out]
         · exact ((HB3.out.setCell (Nat.le_refl _) _).setCell (Nat.le_refl _) _).setCell (Nat.le_refl _) _
       · have HNO := Lib.hid (show dec x = none by rw [HD.out, if_neg (fun h => hls h.2)])
         have hbe : (((x : Nat) : Int) != ((wd s c q : Nat) : Int)) = true := by simp; omega
         clear hls HD HM
         go_wp2
         rw [HNO.out]
         refine bodyPost_ret (v := .tuple #[gv none, .int .i64 (ev none)]) ?_ rfl ⟨rfl, ?_⟩
         · simp [results, Tryz.results56, go_sem, gv, ev, hc0, hc1, hc2]
         · exact ((HB3.out.setCell (Nat.le_refl _) _).setCell (Nat.le_refl _) _).setCell (Nat.le_refl _) _)
end Slo
end Go.Proofs.YtleehhpodgbomaaGreatDoor
/- The document's May and Encode. -/
namespace Go.Proofs.YtleehhpodgbomaaGreatDoor
open Go.RowKit Go.MapKept
namespace Slo
open Lin

theorem ret_bool {a b : Bool} (h : a = true ↔ b = true) : Ending.returned (Value.bool a) = Ending.returned (Value.bool b) := by rw [Bool.eq_iff_iff.2 h]

set_option maxHeartbeats 1000000 in
theorem refMay_any (w : World) (s c n : Int) :
    Calls Tryz.prog 132 #[.agg #[.int .i64 s, .int .i64 c, .int .i64 n]] w fun r w' => r = .returned (.bool (may s c n)) ∧ Below w.heap.size w w' := by
  go_enter Tryz.func132, Tryz.ntmps132
  go_wp2
  all_goals go_ret
  all_goals refine ⟨ret_bool ?_, (Below.refl _ _).alloc (Nat.le_refl _) _⟩
  all_goals refine Iff.trans ?_ may_iff.symm
  all_goals unfold May
  all_goals simp only [decide_eq_true_eq, Bool.false_eq_true, false_iff] at *
  all_goals omega

theorem refEncode_no (w : World) (s c n : Int) (hm : may s c n = false) :
    Calls Tryz.prog 98 #[.agg #[.int .i64 s, .int .i64 c, .int .i64 n]] w fun r w' => r = .returned (.tuple #[.int .u64 0, .bool false]) ∧ Below w.heap.size w w' := by
  have HM := Lib.hid (fun w => refMay_any w s c n)
  have HE := Lib.hid hm
  clear hm
  have HB := Lib.hid ((Below.refl w.heap.size w).alloc (Nat.le_refl _) (.cells #[.int .i64 s, .int .i64 c, .int .i64 n] 57))
  go_enter Tryz.func98, Tryz.ntmps98
  go_wp2_with fail
  refine (HM.out _).mono ?_
  rintro e w' ⟨rfl, hb⟩
  rw [HE.out]
  have HB1 := Lib.hid (HB.out.trans (hb.mono HB.out.size))
  clear hb
  go_wp2
  go_ret2
  exact ⟨rfl, HB1.out⟩

theorem one_crc (w : World) {x : Nat} (h : x < 18446744073709551616) : Crc.Wds (w.alloc (.cells #[.int .u64 (x : Int)] 71)) (some ⟨w.heap.size, 0, none⟩) [x] :=
  ⟨fun y hy => by
    obtain rfl : y = x := by simpa using hy
    exact h, by simp, fun j hj => by
    have : j < 1 := hj
    match j, this with
    | 0, _ => exact ⟨w.heap.size, 0, rfl, by simp, Pack.alloc_cell _ _ _ _⟩⟩
theorem refBytes_one (w : World) {x : Nat} (h : x < 18446744073709551616) : Calls Tryz.prog 90 #[.slice (some ⟨w.heap.size, 0, none⟩) 1 1] (w.alloc (.cells #[.int .u64 (x : Int)] 71)) fun e w' => e = .returned (.string (Crc.str (Crc.wb x))) ∧ Below w.heap.size w w' := by
  refine (Crc.bytes_any _ 1 _ (one_crc w h) (by simp)).mono ?_
  rintro e w' ⟨rfl, hb⟩
  have hb0 := (Below.refl w.heap.size w).alloc (Nat.le_refl _) (.cells #[.int .u64 (x : Int)] 71)
  have e8 : Crc.wflat [x] = Crc.wb x := by simp [Crc.wflat]
  rw [e8]
  exact ⟨rfl, hb0.trans (hb.mono hb0.size)⟩
theorem tx_six (x : Nat) : Crc.tx ((Crc.str (Crc.wb x)).extract 0 6) = six x := by
  have h := Crc.tx_str (Crc.wb_byt x)
  unfold six
  rw [← h]
  unfold Crc.tx
  rw [ByteArray.data_extract, Array.toList_extract, List.extract_eq_take_drop, List.drop_zero, List.map_take]
  rw [show (Crc.str (List.map UInt8.toNat (Crc.str (Crc.wb x)).data.toList)) = Crc.str (Crc.wb x) by
    show Crc.str (Crc.tx (Crc.str (Crc.wb x))) = _
    rw [h]]
theorem refSum_six (w : World) (s c q : Nat) : Calls Tryz.prog 133 #[.string ((Crc.str (Crc.wb (nums s c q))).extract 0 6)] w fun e w' => e = .returned (.int .u16 (sum s c q : Nat)) ∧ w = w' := by
  have h := Crc.ref16_any w ((Crc.str (Crc.wb (nums s c q))).extract 0 6) (by
    rw [← Crc.tx_len, tx_six, six_len]
    omega)
  rw [tx_six] at h
  exact h
theorem str8 (x : Nat) : (Crc.str (Crc.wb x)).size = 8 := by rw [Crc.str_size, Crc.wb_len]

set_option maxHeartbeats 2000000 in
set_option maxRecDepth 100000 in
theorem refEncode_yes (w : World) (s c q : Nat) (n : Int) (hn : n = nx q) (hm : may s c (nx q) = true) :
    Calls Tryz.prog 98 #[.agg #[.int .i64 (s : Int), .int .i64 (c : Int), .int .i64 n]] w fun r w' => r = .returned (.tuple #[.int .u64 (wd s c q : Nat), .bool true]) ∧ Below w.heap.size w w' := by
  obtain ⟨h1, h2, h3, h4⟩ := may_lt hm
  have hs64 : s < 65536 := by omega
  have hc64 : c < 65536 := by omega
  have HM := Lib.hid (fun w => refMay_any w s c n)
  have HE := Lib.hid (show may s c n = true by rw [hn]; exact hm)
  have hnl := nums_lt hs64 hc64 h4
  have hsl := sum_lt s c q
  clear hm h1 h2 h3
  have HB := Lib.hid ((Below.refl w.heap.size w).alloc (Nat.le_refl _) (.cells #[.int .i64 (s : Int), .int .i64 (c : Int), .int .i64 n] 57))
  have HX := Lib.hid (boxed w s c n 57)
  by_cases hq : q = 65535
  · subst hq
    rw [nx_none] at hn
    subst hn
    go_enter Tryz.func98, Tryz.ntmps98
    go_wp2_with fail
    refine (HM.out _).mono ?_
    rintro e w1 ⟨rfl, hb⟩
    rw [HE.out]
    have HB1 := Lib.hid (HB.out.trans (hb.mono HB.out.size))
    have HX1 := Lib.hid (HX.out.keep hb)
    have hc0 := HX1.out.c0
    have hc1 := HX1.out.c1
    have hc2 := HX1.out.c2
    clear hb HX
    go_wp2_with fail
    rw [show ((s : Int) + 65536 * (c : Int) + 281470681743360) = ((nums s c 65535 : Nat) : Int) by unfold nums; omega]
    refine (refBytes_one _ (x := nums s c 65535) (by omega)).mono ?_
    rintro e w2 ⟨rfl, hb⟩
    have HB2 := Lib.hid (HB1.out.trans (hb.mono HB1.out.size))
    have h8 := str8 (nums s c 65535)
    have HR := Lib.hid (fun w => refSum_six w s c 65535)
    have HWD := Lib.hid (show ((wd s c 65535 : Nat) : Int) = ((nums s c 65535 : Nat) : Int) + 281474976710656 * ((sum s c 65535 : Nat) : Int) by unfold wd; omega)
    clear hb HB1 HX1 hc0 hc1 hc2
    generalize Crc.str (Crc.wb (nums s c 65535)) = T at *
    go_wp2_with fail
    refine (HR.out _).mono ?_
    rintro e w' ⟨rfl, rfl⟩
    go_wp2
    go_ret2
    exact ⟨by rw [HWD.out]; rfl, HB2.out⟩
  · rw [nx_some hq] at hn
    subst hn
    have hq0 : ¬ (q : Int) < 0 := by omega
    go_enter Tryz.func98, Tryz.ntmps98
    go_wp2_with fail
    refine (HM.out _).mono ?_
    rintro e w1 ⟨rfl, hb⟩
    rw [HE.out]
    have HB1 := Lib.hid (HB.out.trans (hb.mono HB.out.size))
    have HX1 := Lib.hid (HX.out.keep hb)
    have hc0 := HX1.out.c0
    have hc1 := HX1.out.c1
    have hc2 := HX1.out.c2
    clear hb HX
    go_wp2_with fail
    rw [show ((s : Int) + 65536 * (c : Int) + 4294967296 * (q : Int)) = ((nums s c q : Nat) : Int) by unfold nums; omega]
    refine (refBytes_one _ (x := nums s c q) (by omega)).mono ?_
    rintro e w2 ⟨rfl, hb⟩
    have HB2 := Lib.hid (HB1.out.trans (hb.mono HB1.out.size))
    have h8 := str8 (nums s c q)
    have HR := Lib.hid (fun w => refSum_six w s c q)
    have HWD := Lib.hid (show ((wd s c q : Nat) : Int) = ((nums s c q : Nat) : Int) + 281474976710656 * ((sum s c q : Nat) : Int) by unfold wd; omega)
    clear hb HB1 HX1 hc0 hc1 hc2
    generalize Crc.str (Crc.wb (nums s c q)) = T at *
    go_wp2_with fail
    refine (HR.out _).mono ?_
    rintro e w' ⟨rfl, rfl⟩
    go_wp2
    go_ret2
    exact ⟨by rw [HWD.out]; rfl, HB2.out⟩
end Slo
end Go.Proofs.YtleehhpodgbomaaGreatDoor
