/- Texts laid together: PmMem, PmSmall, PmMark, PmSettle, PmStore, PmAbs. -/
import Derived.Test.YtilolepbfmcbgaaGreatDoorRows
import Derived.WalkKit
import Derived.ProofKit
import Derived.Maps.AppendAt
import Derived.MapKept
import Derived.Lib.Hide
import Derived.Deep.Draws
import Derived.RegionTactic
import Derived.BigRegion
import Derived.Test.YtilolepbfmcbgaaGreatDoorKa1
import Derived.Test.YtilolepbfmcbgaaGreatDoorKa2
import Derived.Test.YtilolepbfmcbgaaGreatDoorKa3
import Derived.Test.YtilolepbfmcbgaaGreatDoorKr1
import Derived.Test.YtilolepbfmcbgaaGreatDoorKr2
/- The device of package pm as it lies in memory: its cells, its words, the map of pending words, the histories' rows, the marked words. Plain definitions and what the map's operations do. -/
namespace Go.Proofs.YtilolepbfmcbgaaGreatDoor
open Go.RowKit Go.MapKept
namespace Pm

/-- a pending word: its number, its values (the lasting one first), the mark; and where its values lie. -/
structure Ent where
  key : Nat
  vals : List Int
  mark : Nat
  blk : Nat
  off : Nat
  cap : Nat
  born : Nat

def u64s (l : List Int) : List Value := l.map (Value.int .u64)
def i64s (l : List Nat) : List Value := l.map (fun k : Nat => Value.int .i64 (k : Int))
def Ent.val (e : Ent) : Value := .agg #[.slice (some ⟨e.blk, e.off, none⟩) e.vals.length e.cap, .int .i64 (e.mark : Int)]
def Ent.entry (e : Ent) : MapEntry := ⟨.int .i64 (e.key : Int), e.val, e.born⟩

/-- a device: what it is, and where it lies. -/
structure Dev where
  steps : Nat
  stores : Nat
  armed : Bool
  left : Nat
  words : List Int
  ents : List Ent
  marked : List Nat
  wb : Nat
  mb : Nat
  clock : Nat
  mka : Option Addr
  mkc : Nat
  wcap : Nat
  spare : List Value := []

def Dev.mkv (D : Dev) : Value := .slice D.mka D.marked.length D.mkc

def Dev.cells (D : Dev) : Array Value :=
  #[.int .i64 (D.steps : Int), .int .i64 (D.stores : Int), .bool D.armed, .int .i64 (D.left : Int), .slice (some ⟨D.wb, 0, none⟩) D.words.length D.wcap, .map (some D.mb), .slice D.mka D.marked.length D.mkc]

def Ent.lies (w : World) (e : Ent) : Prop :=
  ∃ cs : Array Value, w.heap[e.blk]? = some (.cells cs 121 (0, 0)) ∧ e.off + e.cap = cs.size ∧ e.vals.length ≤ e.cap ∧ (cs.toList.drop e.off).take e.vals.length = u64s e.vals

/-- the entries' stamps, as the map keeps them -/
def Stamp (l : List Ent) (c : Nat) : Prop := (∀ e ∈ l, e.born < c) ∧ (l.map Ent.born).Nodup

structure Rep (w : World) (a : Nat) (D : Dev) : Prop where
  dev : w.heap[a]? = some (.cells D.cells 52 (0, 0))
  wds : w.heap[D.wb]? = some (.cells (u64s D.words ++ D.spare).toArray 121 (0, 0))
  map : w.heap[D.mb]? = some (.map (D.ents.map Ent.entry).toArray D.clock)
  ent : ∀ e ∈ D.ents, e.lies w
  mrk : w.ownsRow 0 3 1 D.mkv D.marked.length (i64s D.marked)
  nodup : (D.wb :: D.ents.map Ent.blk).Nodup
  keys : (D.ents.map Ent.key).Nodup
  stamp : Stamp D.ents D.clock

/-- the device's own blocks. -/
def Foot (a : Nat) (D : Dev) (k : Nat) : Prop := k = a ∨ k = D.wb ∨ k = D.mb ∨ k ∈ D.ents.map Ent.blk ∨ D.mkv.ownBlock = some k

/-- but for the blocks of S, all that was there is as it was. -/
structure Off (S : Nat → Prop) (w w' : World) : Prop where
  os : w'.os = w.os
  tape : w'.tape = w.tape
  output : w'.output = w.output
  size : w.heap.size ≤ w'.heap.size
  block : ∀ k, k < w.heap.size → ¬ S k → w'.heap[k]? = w.heap[k]?

section
variable {S S' : Nat → Prop} {w w' w'' : World}
theorem Off.refl (S : Nat → Prop) (w : World) : Off S w w := ⟨rfl, rfl, rfl, Nat.le_refl _, fun _ _ _ => rfl⟩
theorem Off.trans (h : Off S w w') (k : Off S' w' w'') (hs : ∀ b, b < w.heap.size → S' b → S b) : Off S w w'' :=
  ⟨k.os.trans h.os, k.tape.trans h.tape, k.output.trans h.output, Nat.le_trans h.size k.size,
    fun b hb hn => (k.block b (Nat.lt_of_lt_of_le hb h.size) (fun hx => hn (hs b hb hx))).trans (h.block b hb hn)⟩
theorem Off.drew (h : Off S w w') : Off S w w'.drew := ⟨h.os, h.tape, h.output, h.size, h.block⟩
theorem Off.drewN (h : Off S w w') (n : Nat) : Off S w (w'.drewN n) := ⟨h.os, h.tape, h.output, h.size, h.block⟩
theorem Off.alloc (h : Off S w w') (o : Obj) : Off S w (w'.alloc o) :=
  ⟨h.os, h.tape, h.output, Nat.le_trans h.size (by simp), fun b hb hn => (Below.heap_alloc w' o b (Nat.lt_of_lt_of_le hb h.size)).trans (h.block b hb hn)⟩
theorem Off.setCell (h : Off S w w') {p : Addr} (hp : p.block < w.heap.size → S p.block) (u : Value) : Off S w (w'.setCell p u) :=
  ⟨h.os, h.tape, h.output, Nat.le_trans h.size (by simp [World.setCell]), fun b hb hn => (Below.heap_setCell w' p u b (fun e => hn (by subst e; exact hp hb))).trans (h.block b hb hn)⟩
theorem Off.grown (h : Off S w w') {row : Option Nat} (hg : w'.grownBy w'' row) (hr : ∀ k, row = some k → k < w.heap.size → S k) : Off S w w'' :=
  ⟨hg.os.trans h.os, hg.tape.trans h.tape, hg.output.trans h.output, Nat.le_trans h.size hg.size,
    fun b hb hn => (hg.block b (Nat.lt_of_lt_of_le hb h.size) (fun e => hn (hr b e.symm hb))).trans (h.block b hb hn)⟩
theorem Off.mono (h : Off S w w') (hs : ∀ b, b < w.heap.size → S b → S' b) : Off S' w w' :=
  ⟨h.os, h.tape, h.output, h.size, fun b hb hn => h.block b hb (fun hx => hn (hs b hb hx))⟩
theorem Off.below {B : Nat} (h : Off S w w') (hB : B ≤ w.heap.size) (hs : ∀ b, S b → B ≤ b) : Below B w w' :=
  ⟨h.os, h.tape, h.output, h.size, fun b hb => h.block b (by omega) (fun hx => by have := hs b hx; omega)⟩
end

/-- what a call leaves: the device as D', all else as it was -/
structure Res (w : World) (a : Nat) (D : Dev) (w' : World) (D' : Dev) : Prop where
  rep : Rep w' a D'
  off : Off (Foot a D) w w'
  foot : ∀ k, Foot a D' k → Foot a D k ∨ w.heap.size ≤ k
theorem Res.refl {w : World} {a : Nat} {D : Dev} (h : Rep w a D) : Res w a D w D := ⟨h, Off.refl _ _, fun _ h => .inl h⟩
theorem Res.trans {w w1 w2 : World} {a : Nat} {D D1 D2 : Dev} (h : Res w a D w1 D1) (k : Res w1 a D1 w2 D2) : Res w a D w2 D2 :=
  ⟨k.rep, h.off.trans k.off (fun b hb hf => (h.foot b hf).resolve_right (by omega)), fun b hb => by
    rcases k.foot b hb with h1 | h1
    · exact h.foot b h1
    · exact .inr (Nat.le_trans h.off.size h1)⟩

/-! The map's operations. -/
section
variable {w : World} {b c : Nat}
theorem under_map : Tryz.prog.underlying 49 = some (.map 3 202) := Tryz.underlying49
theorem zero_hist (w : World) : (zeroValue 202).run Tryz.prog w = .ok (.agg #[.slice none 0 0, .int .i64 0]) w := by kernel_rfl

theorem find_none (k : Nat) : ∀ (l : List Ent) (i : Nat), k ∉ l.map Ent.key → Instr.findNow (.int .i64) (.int .i64 (k : Int)) (l.map Ent.entry) i = some none
  | [], _, _ => rfl
  | e :: r, i, h => by
    simp only [List.map_cons, List.mem_cons, not_or] at h
    have hne : ((k : Int) == (e.key : Int)) = false := by simp; omega
    simp only [List.map_cons, Instr.findNow, Ent.entry, Instr.sameNow, if_true, hne]
    exact find_none k r (i + 1) h.2
theorem find_some (e : Ent) (post : List Ent) : ∀ (pre : List Ent) (i : Nat), e.key ∉ pre.map Ent.key →
    Instr.findNow (.int .i64) (.int .i64 (e.key : Int)) ((pre ++ e :: post).map Ent.entry) i = some (some (i + pre.length, e.val))
  | [], i, _ => by simp [Instr.findNow, Ent.entry, Instr.sameNow]
  | f :: r, i, h => by
    simp only [List.map_cons, List.mem_cons, not_or] at h
    have hne : ((e.key : Int) == (f.key : Int)) = false := by simp; omega
    have ih := find_some e post r (i + 1) h.2
    simp only [List.map_append, List.map_cons] at ih
    simp only [List.cons_append, List.map_append, List.map_cons, Instr.findNow, Ent.entry, Instr.sameNow, if_true, hne]
    simp only [Ent.entry] at ih
    rw [ih]
    simp; omega

theorem isKey (k : Int) : IsKey (.int .i64) (.int .i64 k) := by simp [IsKey]

theorem run_look_none {l : List Ent} {k : Nat} (hb : w.heap[b]? = some (.map (l.map Ent.entry).toArray c)) (hk : k ∉ l.map Ent.key) (ok : Bool) :
    (Instr.lookup 49 (.map (some b)) (.int .i64 (k : Int)) ok).run Tryz.prog w = .ok (if ok then .tuple #[.agg #[.slice none 0 0, .int .i64 0], .bool false] else .agg #[.slice none 0 0, .int .i64 0]) w := by
  have hf := find_none k l 0 hk
  simp [Instr.lookup, run_underlying under_map, MapKept.run_getObj_map hb, run_checkKey Tryz.underlying3 (isKey _), run_findKey Tryz.underlying3 hf, Result.andThen]
theorem run_look_some {pre post : List Ent} {e : Ent} (hb : w.heap[b]? = some (.map ((pre ++ e :: post).map Ent.entry).toArray c)) (hk : e.key ∉ pre.map Ent.key) (ok : Bool) :
    (Instr.lookup 49 (.map (some b)) (.int .i64 (e.key : Int)) ok).run Tryz.prog w = .ok (if ok then .tuple #[e.val, .bool true] else e.val) w := by
  have hf := find_some e post pre 0 hk
  simp only [Instr.lookup, Sem.run_bind, run_underlying under_map, Result.andThen, MapKept.run_getObj_map hb, Sem.run_pure, run_checkKey Tryz.underlying3 (isKey _), run_findKey Tryz.underlying3 hf]

def putMap (w : World) (b : Nat) (l : List Ent) (c : Nat) : World := { w with heap := w.heap.setIfInBounds b (.map (l.map Ent.entry).toArray c) }

theorem putMap_at {l : List Ent} (hb : b < w.heap.size) : (putMap w b l c).heap[b]? = some (.map (l.map Ent.entry).toArray c) := by simp [putMap, hb]
theorem putMap_ne {l : List Ent} {k : Nat} (hk : k ≠ b) : (putMap w b l c).heap[k]? = w.heap[k]? := by simp [putMap, Ne.symm hk]
theorem putMap_size {l : List Ent} : (putMap w b l c).heap.size = w.heap.size := by simp [putMap]
theorem Off.putMap {S : Nat → Prop} {w0 : World} {l : List Ent} (h : Off S w0 w) (hp : b < w0.heap.size → S b) : Off S w0 (putMap w b l c) :=
  ⟨h.os, h.tape, h.output, Nat.le_trans h.size (by rw [putMap_size]; exact Nat.le_refl _), fun k hk hn => (putMap_ne (fun e => hn (by subst e; exact hp hk))).trans (h.block k hk hn)⟩

theorem run_put_none {l : List Ent} {e : Ent} (hb : w.heap[b]? = some (.map (l.map Ent.entry).toArray c)) (hk : e.key ∉ l.map Ent.key) (hc : e.born = c) :
    (Instr.mapUpdate 49 (.map (some b)) (.int .i64 (e.key : Int)) e.val).run Tryz.prog w = .ok () (putMap w b (l ++ [e]) (c + 1)) := by
  have hf := find_none e.key l 0 hk
  simp only [Instr.mapUpdate, Sem.run_bind, run_underlying under_map, Result.andThen, MapKept.run_getObj_map hb, run_checkKey Tryz.underlying3 (isKey _), run_findKey Tryz.underlying3 hf, run_setObj_map _ hb]
  subst hc
  simp [putMap, Ent.entry]
theorem run_stays (k : Int) (w : World) : (Instr.keyThatStays (.int .i64 k) (.int .i64 k)).run Tryz.prog w = .ok (.int .i64 k) w := by
  simp [Instr.keyThatStays, Instr.sameBits]
theorem at_pre {α : Type} (pre post : List α) (e : α) : (pre ++ e :: post)[pre.length]? = some e := by simp
theorem modify_pre {α : Type} (f : α → α) (post : List α) (e : α) : ∀ pre : List α, (pre ++ e :: post).modify pre.length f = pre ++ f e :: post
  | [] => rfl
  | x :: r => by simp [modify_pre f post e r]
theorem erase_pre {α : Type} (post : List α) (e : α) : ∀ pre : List α, (pre ++ e :: post).eraseIdx pre.length = pre ++ post
  | [] => rfl
  | x :: r => by simp [erase_pre post e r]
theorem run_put_some {pre post : List Ent} {e e' : Ent} (hb : w.heap[b]? = some (.map ((pre ++ e :: post).map Ent.entry).toArray c)) (hk : e.key ∉ pre.map Ent.key) (he : e'.key = e.key) (hn : e'.born = e.born) :
    (Instr.mapUpdate 49 (.map (some b)) (.int .i64 (e.key : Int)) e'.val).run Tryz.prog w = .ok () (putMap w b (pre ++ e' :: post) c) := by
  have hf := find_some e post pre 0 hk
  have hat : ((pre ++ e :: post).map Ent.entry)[pre.length]? = some e.entry := by simp
  simp only [Instr.mapUpdate, Sem.run_bind, run_underlying under_map, Result.andThen, MapKept.run_getObj_map hb, run_checkKey Tryz.underlying3 (isKey _), run_findKey Tryz.underlying3 hf, Nat.zero_add, List.getElem?_toArray, hat, Option.map_some, Option.getD_some, Ent.entry, run_stays]
  have hm : (((pre ++ e :: post).map Ent.entry).toArray.modify pre.length fun x => { x with key := .int .i64 (e.key : Int), val := e'.val }) = ((pre ++ e' :: post).map Ent.entry).toArray := by
    apply Array.toList_inj.1
    simp only [Array.toList_modify, List.map_append, List.map_cons]
    have := modify_pre (fun x : MapEntry => { x with key := Value.int .i64 (e.key : Int), val := e'.val }) (post.map Ent.entry) e.entry (pre.map Ent.entry)
    rw [List.length_map] at this
    rw [this]
    simp [Ent.entry, he, hn]
  rw [hm, run_setObj_map _ hb]
  rfl
theorem run_del_some {pre post : List Ent} {e : Ent} (ty : TypeId) (hb : w.heap[b]? = some (.map ((pre ++ e :: post).map Ent.entry).toArray c)) (hk : e.key ∉ pre.map Ent.key) :
    (Builtin.delete_ #[49, 3] ty #[.map (some b), .int .i64 (e.key : Int)]).run Tryz.prog w = .ok (.tuple #[]) (putMap w b (pre ++ post) c) := by
  have hf := find_some e post pre 0 hk
  have hm : ((pre ++ e :: post).map Ent.entry).toArray.eraseIdxIfInBounds pre.length = ((pre ++ post).map Ent.entry).toArray := by
    apply Array.toList_inj.1
    unfold Array.eraseIdxIfInBounds
    split
    · simp only [Array.toList_eraseIdx, List.map_append, List.map_cons]
      have := erase_pre (post.map Ent.entry) e.entry (pre.map Ent.entry)
      rw [List.length_map] at this
      exact this
    · rename_i h; simp at h
  unfold putMap
  rw [← hm]
  clear hm
  generalize (pre ++ e :: post).map Ent.entry = l at *
  simp [Builtin.delete_, run_underlying under_map, MapKept.run_getObj_map hb, run_checkKey Tryz.underlying3 (isKey _), run_findKey Tryz.underlying3 hf, Result.andThen, run_setObj_map _ hb]
end
end Pm
end Go.Proofs.YtilolepbfmcbgaaGreatDoor
/- The device's small calls: Down, step, has, Len, Load, New. -/
namespace Go.Proofs.YtilolepbfmcbgaaGreatDoor
open Go.RowKit Go.MapKept
namespace Pm

section
variable {w w' : World} {a : Nat} {D D' : Dev}
theorem lt_of_some {o : Obj} {k : Nat} (h : w.heap[k]? = some o) : k < w.heap.size := (Array.getElem?_eq_some_iff.1 h).1
theorem blk_cell {g : Nat} {t : TypeId} {cs : Array Value} (h : w.heap[g]? = some (.cells cs t (0, 0))) (i : Nat) : w.cell? ⟨g, i, none⟩ = cs[i]? := cell_of_row w g i cs t (0, 0) h
theorem blk_frozen {g : Nat} {t : TypeId} {cs : Array Value} (h : w.heap[g]? = some (.cells cs t (0, 0))) (i : Nat) : w.frozen? ⟨g, i, none⟩ = false := by simp [World.frozen?, h]
theorem blk_set {g : Nat} {t : TypeId} {cs : Array Value} (h : w.heap[g]? = some (.cells cs t (0, 0))) (i : Nat) (u : Value) :
    (w.setCell ⟨g, i, none⟩ u).heap[g]? = some (.cells (cs.setIfInBounds i u) t (0, 0)) := by simp [World.setCell, Array.getElem?_modify, h]
theorem blk_far {g : Nat} {o : Obj} (h : w.heap[g]? = some o) {p : Addr} (hp : g ≠ p.block) (u : Value) : (w.setCell p u).heap[g]? = some o := (Below.heap_setCell w p u g hp).trans h
theorem blk_alloc {g : Nat} {o : Obj} (h : w.heap[g]? = some o) (o' : Obj) : (w.alloc o').heap[g]? = some o := (Below.heap_alloc w o' g (lt_of_some h)).trans h
theorem blk_ne {g g' : Nat} {t t' : TypeId} {cs cs' : Array Value} (h : w.heap[g]? = some (.cells cs t (0, 0))) (h' : w.heap[g']? = some (.cells cs' t' (0, 0))) (hne : t ≠ t') : g ≠ g' := by
  rintro rfl
  rw [h] at h'
  injection h' with h'
  injection h' with _ ht
  exact hne ht
theorem blk_map {g g' : Nat} {t : TypeId} {cs : Array Value} {es : Array MapEntry} {c : Nat} (h : w.heap[g]? = some (.cells cs t (0, 0))) (h' : w.heap[g']? = some (.map es c)) : g ≠ g' := by
  rintro rfl
  rw [h] at h'
  injection h' with h'
  cases h'

theorem Rep.cell (h : Rep w a D) (i : Nat) : w.cell? ⟨a, i, none⟩ = D.cells[i]? := blk_cell h.dev i
theorem Rep.frozen (h : Rep w a D) (i : Nat) : w.frozen? ⟨a, i, none⟩ = false := blk_frozen h.dev i
theorem Rep.c0 (h : Rep w a D) : w.cell? ⟨a, 0, none⟩ = some (.int .i64 (D.steps : Int)) := h.cell 0
theorem Rep.c1 (h : Rep w a D) : w.cell? ⟨a, 1, none⟩ = some (.int .i64 (D.stores : Int)) := h.cell 1
theorem Rep.c2 (h : Rep w a D) : w.cell? ⟨a, 2, none⟩ = some (.bool D.armed) := h.cell 2
theorem Rep.c3 (h : Rep w a D) : w.cell? ⟨a, 3, none⟩ = some (.int .i64 (D.left : Int)) := h.cell 3
theorem Rep.c4 (h : Rep w a D) : w.cell? ⟨a, 4, none⟩ = some (.slice (some ⟨D.wb, 0, none⟩) D.words.length D.wcap) := h.cell 4
theorem Rep.c5 (h : Rep w a D) : w.cell? ⟨a, 5, none⟩ = some (.map (some D.mb)) := h.cell 5
theorem Rep.c6 (h : Rep w a D) : w.cell? ⟨a, 6, none⟩ = some (.slice D.mka D.marked.length D.mkc) := h.cell 6
theorem Rep.lt (h : Rep w a D) : a < w.heap.size := lt_of_some h.dev
theorem Rep.ne_wb (h : Rep w a D) : a ≠ D.wb := blk_ne h.dev h.wds (by decide)
theorem Rep.ne_mb (h : Rep w a D) : a ≠ D.mb := blk_map h.dev h.map
theorem Rep.wb_mb (h : Rep w a D) : D.wb ≠ D.mb := blk_map h.wds h.map
theorem Rep.ne_ent (h : Rep w a D) {e : Ent} (he : e ∈ D.ents) : a ≠ e.blk := by
  obtain ⟨cs, hcs, _⟩ := h.ent e he
  exact blk_ne h.dev hcs (by decide)
theorem Rep.ne_mkv (h : Rep w a D) : D.mkv.ownBlock ≠ some a := by
  rcases h.mrk.2 with ⟨e, _⟩ | ⟨g, cap, cur, e, _, hg, _⟩
  · rw [e]; simp [Value.ownBlock]
  · rw [e]
    simp only [Value.ownBlock, ne_eq, Option.some.injEq]
    exact blk_ne hg h.dev (by decide)

theorem Rep.mb_mkv (h : Rep w a D) : D.mkv.ownBlock ≠ some D.mb := by
  rcases h.mrk.2 with ⟨e, _⟩ | ⟨g, cap, cur, e, _, hg, _⟩
  · rw [e]; simp [Value.ownBlock]
  · rw [e]
    simp only [Value.ownBlock, ne_eq, Option.some.injEq]
    exact blk_map hg h.map
theorem Rep.u64_mkv (h : Rep w a D) {k : Nat} {cs : Array Value} (hk : w.heap[k]? = some (.cells cs 121 (0, 0))) : D.mkv.ownBlock ≠ some k := by
  rcases h.mrk.2 with ⟨e, _⟩ | ⟨g, cap, cur, e, _, hg, _⟩
  · rw [e]; simp [Value.ownBlock]
  · rw [e]
    simp only [Value.ownBlock, ne_eq, Option.some.injEq]
    exact blk_ne hg hk (by decide)

/-- all blocks of the device lie in the heap -/
theorem Rep.foot_lt (h : Rep w a D) {k : Nat} (hk : Foot a D k) : k < w.heap.size := by
  rcases hk with rfl | rfl | rfl | hk | hk
  · exact lt_of_some h.dev
  · exact lt_of_some h.wds
  · exact lt_of_some h.map
  · obtain ⟨e, he, rfl⟩ := List.mem_map.1 hk
    obtain ⟨cs, hcs, _⟩ := h.ent e he
    exact lt_of_some hcs
  · rcases h.mrk.2 with ⟨e, _⟩ | ⟨g, cap, cur, e, _, hg, _⟩
    · rw [e] at hk; simp [Value.ownBlock] at hk
    · rw [e] at hk
      simp only [Value.ownBlock, Option.some.injEq] at hk
      subst hk
      exact lt_of_some hg

theorem lies_keep {e : Ent} (h : e.lies w) (hk : w'.heap[e.blk]? = w.heap[e.blk]?) : e.lies w' := by
  obtain ⟨cs, hcs, r⟩ := h
  exact ⟨cs, hk.trans hcs, r⟩
theorem row_keep {base : Nat} {e : TypeId} {size n : Nat} {v : Value} {xs : List Value} (h : w.ownsRow base e size v n xs) (hk : ∀ g, v.ownBlock = some g → w'.heap[g]? = w.heap[g]?) : w'.ownsRow base e size v n xs := by
  refine ⟨h.1, ?_⟩
  rcases h.2 with h2 | ⟨g, cap, cur, e, hb, hg, r⟩
  · exact .inl h2
  · exact .inr ⟨g, cap, cur, e, hb, (hk g (by rw [e]; rfl)).trans hg, r⟩

/-- a world in which the device's blocks are as they were -/
theorem Rep.keep (h : Rep w a D) (hk : ∀ k, Foot a D k → w'.heap[k]? = w.heap[k]?) : Rep w' a D := {
  dev := (hk _ (.inl rfl)).trans h.dev
  wds := (hk _ (.inr (.inl rfl))).trans h.wds
  map := (hk _ (.inr (.inr (.inl rfl)))).trans h.map
  ent := fun e he => lies_keep (h.ent e he) (hk _ (.inr (.inr (.inr (.inl (List.mem_map_of_mem he))))))
  mrk := row_keep h.mrk (fun _ hg => hk _ (.inr (.inr (.inr (.inr hg)))))
  nodup := h.nodup
  keys := h.keys
  stamp := h.stamp }

/-- the device's own cells alone have turned -/
theorem Rep.turn (h : Rep w a D) (hd : w'.heap[a]? = some (.cells D'.cells 52 (0, 0))) (hk : ∀ k, k < w.heap.size → k ≠ a → w'.heap[k]? = w.heap[k]?)
    (e1 : D'.words = D.words) (e2 : D'.ents = D.ents) (e3 : D'.marked = D.marked) (e4 : D'.wb = D.wb) (e5 : D'.mb = D.mb) (e6 : D'.clock = D.clock) (e7 : D'.mkv = D.mkv) (e8 : D'.spare = D.spare) : Rep w' a D' := {
  dev := hd
  wds := by rw [e4, e1, e8, hk _ (lt_of_some h.wds) h.ne_wb.symm]; exact h.wds
  map := by rw [e5, e2, e6, hk _ (lt_of_some h.map) h.ne_mb.symm]; exact h.map
  ent := fun e he => by
    rw [e2] at he
    exact lies_keep (h.ent e he) (hk _ (h.foot_lt (.inr (.inr (.inr (.inl (List.mem_map_of_mem he)))))) (h.ne_ent he).symm)
  mrk := by
    rw [e7, e3]
    exact row_keep h.mrk (fun _ hg => hk _ (h.foot_lt (.inr (.inr (.inr (.inr hg))))) (fun e => h.ne_mkv (by rw [hg, e])))
  nodup := by rw [e4, e2]; exact h.nodup
  keys := by rw [e2]; exact h.keys
  stamp := by rw [e2, e6]; exact h.stamp }
end

def Dev.down (D : Dev) : Bool := D.armed && D.left == 0
def Dev.stepped (D : Dev) : Dev := { D with steps := D.steps + 1, left := if D.armed then D.left - 1 else D.left }

theorem ret_bool {a b : Bool} (h : a = b) : Ending.returned (.bool a) = .returned (.bool b) := by rw [h]
theorem ret_int {k : IntKind} {a b : Int} (h : a = b) : Ending.returned (.int k a) = .returned (.int k b) := by rw [h]

section
variable {w : World} {a : Nat} {D : Dev}
theorem down_any (h : Rep w a D) : Calls Tryz.prog 161 #[.pointer (some ⟨a, 0, none⟩)] w fun e w' => e = .returned (.bool D.down) ∧ w = w' := by
  have c2 := h.cell 2
  have c3 := h.cell 3
  simp only [Dev.cells] at c2 c3
  unfold Dev.down
  cases hA : D.armed
  · rw [hA] at c2
    clear hA
    go_enter Tryz.func161, Tryz.ntmps161
    go_wp2
    go_ret
    exact ⟨rfl, rfl⟩
  · rw [hA] at c2
    clear hA
    go_enter Tryz.func161, Tryz.ntmps161
    go_wp2
    go_ret
    exact ⟨ret_bool (by rw [Bool.eq_iff_iff]; simp), rfl⟩

theorem step_no (h : Rep w a D) (hd : D.down = true) : Calls Tryz.prog 137 #[.pointer (some ⟨a, 0, none⟩)] w fun e w' => e = .returned (.bool false) ∧ w = w' := by
  have hc := down_any h
  rw [hd] at hc
  have H := Lib.hid hc
  clear hc hd
  go_enter Tryz.func137, Tryz.ntmps137
  go_wp2_with (go_at_call 161; refine H.out.mono ?_; rintro e w' ⟨rfl, rfl⟩)
  go_ret
  exact ⟨rfl, rfl⟩

theorem step_yes (h : Rep w a D) (hd : D.down = false) (hs : D.steps < 4611686018427387904) (hl : D.left < 4611686018427387904) : Calls Tryz.prog 137 #[.pointer (some ⟨a, 0, none⟩)] w fun e w' =>
    e = .returned (.bool true) ∧ Rep w' a D.stepped ∧ Off (· = a) w w' ∧ w'.heap.size = w.heap.size := by
  have hc := down_any h
  rw [hd] at hc
  have H := Lib.hid hc
  clear hc
  have c0 := h.cell 0
  have c2 := h.cell 2
  have c3 := h.cell 3
  have f0 := h.frozen 0
  have f3 := h.frozen 3
  simp only [Dev.cells] at c0 c2 c3
  have hR := Lib.hid h
  clear h
  cases hA : D.armed
  · rw [hA] at c2
    have HA := Lib.hid hA
    clear hA hd
    go_enter Tryz.func137, Tryz.ntmps137
    go_wp2_with (go_at_call 161; refine H.out.mono ?_; rintro e w' ⟨rfl, rfl⟩)
    go_ret
    have h := hR.out
    refine ⟨rfl, h.turn (D' := D.stepped) ?_ (fun k hk hne => Below.heap_setCell _ _ _ _ hne) rfl rfl rfl rfl rfl rfl rfl rfl, (Off.refl (· = a) w).setCell (fun _ => rfl) _, by simp [World.setCell]⟩
    have := blk_set h.dev 0 (.int .i64 ((D.steps : Int) + 1))
    rw [this]
    simp [Dev.cells, Dev.stepped, HA.out]
  · rw [hA] at c2
    have HA := Lib.hid hA
    have hl0 : 0 < D.left := by
      simp only [Dev.down, hA, Bool.true_and, beq_eq_false_iff_ne] at hd
      omega
    clear hA hd
    go_enter Tryz.func137, Tryz.ntmps137
    go_wp2_with (go_at_call 161; refine H.out.mono ?_; rintro e w' ⟨rfl, rfl⟩)
    go_ret
    have h := hR.out
    refine ⟨rfl, h.turn (D' := D.stepped) ?_ (fun k hk hne => (Below.heap_setCell _ _ _ _ hne).trans (Below.heap_setCell _ _ _ _ hne)) rfl rfl rfl rfl rfl rfl rfl rfl, ((Off.refl (· = a) w).setCell (fun _ => rfl) _).setCell (fun _ => rfl) _, by simp [World.setCell]⟩
    rw [blk_set (blk_set h.dev 3 _) 0 _]
    simp [Dev.cells, Dev.stepped, HA.out]
    omega

def Dev.hasB (D : Dev) (i : Int) : Bool := decide (0 ≤ i) && decide (i < (D.words.length : Int))

theorem has_any (h : Rep w a D) (i : Int) : Calls Tryz.prog 136 #[.pointer (some ⟨a, 0, none⟩), .int .i64 i] w fun e w' => e = .returned (.bool (D.hasB i)) ∧ w = w' := by
  have c4 := h.cell 4
  simp only [Dev.cells] at c4
  unfold Dev.hasB
  by_cases h0 : 0 ≤ i
  · go_enter Tryz.func136, Tryz.ntmps136
    go_wp2
    go_ret
    exact ⟨ret_bool (by simp [h0]), rfl⟩
  · go_enter Tryz.func136, Tryz.ntmps136
    go_wp2
    go_ret
    exact ⟨ret_bool (by rw [decide_eq_false (by omega)]; rfl), rfl⟩

theorem len_any (h : Rep w a D) : Calls Tryz.prog 123 #[.pointer (some ⟨a, 0, none⟩)] w fun e w' => e = .returned (.int .i64 (D.words.length : Int)) ∧ w = w' := by
  have c4 := h.cell 4
  simp only [Dev.cells] at c4
  go_enter Tryz.func123, Tryz.ntmps123
  go_wp2
  go_ret
  exact ⟨rfl, rfl⟩

theorem has_yes {i : Int} (h0 : 0 ≤ i) (h1 : i < (D.words.length : Int)) : D.hasB i = true := by simp [Dev.hasB, h0, h1]
theorem has_no {i : Int} (h : i < 0 ∨ (D.words.length : Int) ≤ i) : D.hasB i = false := by
  simp only [Dev.hasB, Bool.and_eq_false_iff, decide_eq_false_iff_not]; omega

theorem Rep.word (h : Rep w a D) (i : Nat) (hi : i < D.words.length) : w.cell? ⟨D.wb, i, none⟩ = some (.int .u64 D.words[i]) := by
  rw [blk_cell h.wds i, List.getElem?_toArray, List.getElem?_append_left (by simpa [u64s] using hi)]; simp [u64s, List.getElem?_eq_getElem hi]

theorem load_no (h : Rep w a D) (i : Int) (hi : D.hasB i = false) : Calls Tryz.prog 120 #[.pointer (some ⟨a, 0, none⟩), .int .i64 i] w fun e w' => e = .returned (.int .u64 0) ∧ w = w' := by
  have hc := has_any h i
  rw [hi] at hc
  have H := Lib.hid hc
  clear hc hi h
  go_enter Tryz.func120, Tryz.ntmps120
  go_wp2_with (go_at_call 136; refine H.out.mono ?_; rintro e w' ⟨rfl, rfl⟩)
  go_ret
  exact ⟨rfl, rfl⟩

theorem load_yes (h : Rep w a D) (i : Nat) (hi : i < D.words.length) : Calls Tryz.prog 120 #[.pointer (some ⟨a, 0, none⟩), .int .i64 (i : Int)] w fun e w' => e = .returned (.int .u64 D.words[i]) ∧ w = w' := by
  have hc := has_any h (i : Int)
  rw [has_yes (by omega) (by omega)] at hc
  have c4 := h.cell 4
  have cw := h.word i hi
  simp only [Dev.cells] at c4
  have H := Lib.hid hc
  clear hc h
  go_enter Tryz.func120, Tryz.ntmps120
  go_wp2_with (go_at_call 136; refine H.out.mono ?_; rintro e w' ⟨rfl, rfl⟩)
  go_ret
  exact ⟨rfl, rfl⟩

/-- a new device of n noughts -/
def Dev.fresh (n g : Nat) : Dev := { steps := 0, stores := 0, armed := false, left := 0, words := List.replicate n 0, ents := [], marked := [], wb := g, mb := g + 1, clock := 0, mka := none, mkc := 0, wcap := n }

theorem u64_info : (Tryz.prog.info? 121).map (fun i => (i.zero, i.size, i.bytes)) = some (some (.int .u64 0), 1, 8) := by kernel_rfl

theorem rep_fresh (w : World) (n : Nat) : Rep (((w.alloc (.cells (madeCells #[.int .u64 0] n) 121)).alloc (.map #[] 0)).alloc (.cells (Dev.fresh n w.heap.size).cells 52)) (w.heap.size + 2) (Dev.fresh n w.heap.size) := {
  dev := by
    have := (heap_alloc ((w.alloc (.cells (madeCells #[.int .u64 0] n) 121)).alloc (.map #[] 0)) (.cells (Dev.fresh n w.heap.size).cells 52)).1
    simpa using this
  wds := by
    refine blk_alloc (blk_alloc ?_ _) _
    rw [show (Dev.fresh n w.heap.size).wb = w.heap.size from rfl, (heap_alloc w _).1]
    congr 2
    apply Array.toList_inj.1
    rw [toList_madeCells_one]
    simp [Dev.fresh, u64s]
  map := by
    refine blk_alloc ?_ _
    have := (heap_alloc (w.alloc (.cells (madeCells #[.int .u64 0] n) 121)) (.map #[] 0)).1
    rw [World.size_alloc] at this
    exact this
  ent := by simp [Dev.fresh]
  mrk := ⟨by simp [Dev.fresh, i64s], .inl ⟨rfl, rfl⟩⟩
  nodup := by simp [Dev.fresh]
  keys := by simp [Dev.fresh]
  stamp := by simp [Dev.fresh, Stamp] }

theorem run_new (m : Nat) (n : Int) (hn : n = (m : Int)) (hm : m ≤ 4194304) (W : World) : (Instr.makeSlice 22 (.int .i64 n) (.int .i64 n)).run Tryz.prog W = .ok (.slice (some ⟨W.heap.size, 0, none⟩) m m) (W.alloc (.cells (madeCells #[.int .u64 0] m) 121)) := by
  obtain ⟨i0, hi0, hz0, hz1, hz2⟩ := info_parts u64_info
  subst hn
  have := run_make (P := Tryz.prog) W 22 121 i0 _ Tryz.underlying22 hi0 hz0 .i64 .i64 (m : Int) (m : Int) (by omega) (by omega) (by rw [hz2]; omega) (by omega)
  rw [hz1] at this
  simpa [Value.cells] using this

theorem own_any (w : World) (m g : Nat) : Calls Tryz.prog 118 #[.slice (some ⟨g, 0, none⟩) m m] w fun e w' => e = .returned (.pointer (some ⟨w.heap.size + 1, 0, none⟩)) ∧
    w' = (w.alloc (.map #[] 0)).alloc (.cells #[.int .i64 0, .int .i64 0, .bool false, .int .i64 0, .slice (some ⟨g, 0, none⟩) m m, .map (some w.heap.size), .slice none 0 0] 52) := by
  have hmm := @run_makeMap Tryz.prog
  go_enter Tryz.func118, Tryz.ntmps118
  go_wp2
  go_ret
  exact ⟨rfl, rfl⟩

theorem fresh_cells (m g : Nat) : (Dev.fresh m g).cells = #[.int .i64 0, .int .i64 0, .bool false, .int .i64 0, .slice (some ⟨g, 0, none⟩) m m, .map (some (g + 1)), .slice none 0 0] := by simp [Dev.cells, Dev.fresh]

theorem new_any (w : World) (n : Int) (m : Nat) (hm : (m : Int) = min (max n 0) 4194304) : Calls Tryz.prog 166 #[.int .i64 n] w fun e w' =>
    e = .returned (.pointer (some ⟨w.heap.size + 2, 0, none⟩)) ∧ Rep w' (w.heap.size + 2) (Dev.fresh m w.heap.size) ∧ Below w.heap.size w w' ∧ w'.heap.size = w.heap.size + 3 := by
  have hrep0 := rep_fresh w m
  rw [fresh_cells] at hrep0
  have hrep := Lib.hid hrep0
  clear hrep0
  have hbel : Below w.heap.size w (((w.alloc (.cells (madeCells #[.int .u64 0] m) 121)).alloc (.map #[] 0)).alloc (.cells (Dev.fresh m w.heap.size).cells 52)) :=
    (((Below.refl _ _).alloc (Nat.le_refl _) _).alloc (by simp) _).alloc (by simp; omega) _
  have hown := own_any (w.alloc (.cells (madeCells #[.int .u64 0] m) 121)) m w.heap.size
  rw [World.size_alloc] at hown
  have HO := Lib.hid hown
  rw [fresh_cells] at hbel
  have HB := Lib.hid hbel
  clear hown hbel
  rcases Int.lt_or_le n 0 with hn | hn
  · have hmk := run_new m 0 (by omega) (by omega)
    clear hm
    go_enter Tryz.func166, Tryz.ntmps166
    go_wp2_with (go_at_call 118; refine HO.out.mono ?_; rintro e w' ⟨rfl, rfl⟩)
    go_ret
    exact ⟨rfl, hrep.out, HB.out, by simp⟩
  · rcases Int.lt_or_le 4194304 n with hn2 | hn2
    · have hmk := run_new m 4194304 (by omega) (by omega)
      clear hm
      go_enter Tryz.func166, Tryz.ntmps166
      go_wp2_with (go_at_call 118; refine HO.out.mono ?_; rintro e w' ⟨rfl, rfl⟩)
      go_ret
      exact ⟨rfl, hrep.out, HB.out, by simp⟩
    · have hmk := run_new m n (by omega) (by omega)
      clear hm
      go_enter Tryz.func166, Tryz.ntmps166
      go_wp2_with (go_at_call 118; refine HO.out.mono ?_; rintro e w' ⟨rfl, rfl⟩)
      go_ret
      exact ⟨rfl, hrep.out, HB.out, by simp⟩
end
end Pm
end Go.Proofs.YtilolepbfmcbgaaGreatDoor
/- The device's mark. -/
namespace Go.Proofs.YtilolepbfmcbgaaGreatDoor
open Go.RowKit Go.MapKept
namespace Pm
section
variable {w : World} {a : Nat} {D : Dev}

theorem mark_no (h : Rep w a D) (k : Nat) (hk : k ∉ D.ents.map Ent.key) : Calls Tryz.prog 139 #[.pointer (some ⟨a, 0, none⟩), .int .i64 (k : Int)] w fun e w' =>
    e = .returned (.tuple #[]) ∧ Res w a D w' D := by
  have c5 := h.cell 5
  simp only [Dev.cells] at c5
  have hl := run_look_none h.map hk true
  simp only [if_true] at hl
  have H := Lib.hid h
  clear h hk
  go_enter Tryz.func139, Tryz.ntmps139
  go_wp2
  refine bodyPost_ret (results_none rfl _ _ _) rfl ?_
  exact ⟨rfl, H.out.keep (fun k hk => Below.heap_alloc _ _ _ (H.out.foot_lt hk)), (Off.refl _ _).alloc _, fun _ h => .inl h⟩

theorem int_info : (Tryz.prog.info? 3).map (fun i => (i.zero, i.size, i.bytes)) = some (some (.int .i64 0), 1, 8) := by kernel_rfl

/-- a row's last form: it owns something, so it is no nil -/
theorem row_form {w : World} {base : Nat} {e : TypeId} {v : Value} {n : Nat} {xs : List Value} (h : w.ownsRow base e 1 v n xs) (hn : 0 < n) : ∃ g c, v = .slice (some ⟨g, 0, none⟩) n c := by
  rcases h.2 with ⟨_, h⟩ | ⟨g, cap, cur, h, _⟩
  · omega
  · exact ⟨g, cap, h⟩

theorem nodup_mid {α : Type} {pre post : List α} {x : α} (h : (pre ++ x :: post).Nodup) : x ∉ pre ∧ x ∉ post := by
  have h1 := List.nodup_append.1 h
  exact ⟨fun hx => h1.2.2 _ hx _ (.head _) rfl, (List.nodup_cons.1 h1.2.1).1⟩

theorem Rep.mid_key (h : Rep w a D) {pre post : List Ent} {e : Ent} (he : D.ents = pre ++ e :: post) : e.key ∉ pre.map Ent.key ∧ e.key ∉ post.map Ent.key := by
  have := h.keys
  rw [he, List.map_append, List.map_cons] at this
  exact nodup_mid this

theorem mark_facts {w2 : World} {cs ds : Array Value} {t u : TypeId} (h : Rep w a D) (hg : ((w.alloc (.cells cs t)).alloc (.cells ds u)).grownBy w2 (Value.slice D.mka D.marked.length D.mkc).ownBlock) :
    (∀ k, k < w.heap.size → D.mkv.ownBlock ≠ some k → w2.heap[k]? = w.heap[k]?) ∧ w2.heap[w.heap.size]? = some (.cells cs t (0, 0)) := by
  refine ⟨fun k hk hn => ?_, ?_⟩
  · rw [hg.block k (by simp; omega) (fun e => hn e.symm), Below.heap_alloc _ _ _ (by simp; omega), Below.heap_alloc _ _ _ hk]
  · rw [hg.block _ (by simp; omega) (fun e => by
      have := h.foot_lt (k := w.heap.size) (.inr (.inr (.inr (.inr e.symm))))
      omega), Below.heap_alloc _ _ _ (by simp), (heap_alloc w _).1]

theorem cell_one_new2 (w : World) (o : Obj) (v : Value) (t : TypeId) : ∀ j u, [v][j]? = some u → ((w.alloc o).alloc (.cells #[v] t)).cell? ((⟨w.heap.size + 1, 0, none⟩ : Addr).add j) = some u := by
  have := cell_one_new (w.alloc o) v t
  rw [World.size_alloc] at this
  exact this

theorem foot_mid {D : Dev} {pre post : List Ent} {e e' : Ent} (he : D.ents = pre ++ e :: post) (hb : e'.blk = e.blk) : (pre ++ e' :: post).map Ent.blk = D.ents.map Ent.blk := by
  rw [he]; simp [hb]
theorem keys_mid {D : Dev} {pre post : List Ent} {e e' : Ent} (he : D.ents = pre ++ e :: post) (hb : e'.key = e.key) : (pre ++ e' :: post).map Ent.key = D.ents.map Ent.key := by
  rw [he]; simp [hb]

theorem stamp_mid {l pre post : List Ent} {e e' : Ent} {c : Nat} (h : Stamp l c) (he : l = pre ++ e :: post) (hb : e'.born = e.born) : Stamp (pre ++ e' :: post) c := by
  subst he
  refine ⟨?_, ?_⟩
  · intro x hx
    simp only [List.mem_append, List.mem_cons] at hx
    rcases hx with hx | rfl | hx
    · exact h.1 x (by simp [hx])
    · rw [hb]; exact h.1 e (by simp)
    · exact h.1 x (by simp [hx])
  · have := h.2
    simpa [hb] using this

/-- what mark leaves, behind its append -/
theorem mark_res {w2 : World} {g c : Nat} {cs : Array Value} {t : TypeId} {u : Value} {row : Option Nat} {pre post : List Ent} {e e' : Ent} (h : Rep w a D) (he : D.ents = pre ++ e :: post)
    (e1 : e'.key = e.key) (e2 : e'.vals = e.vals) (e3 : e'.blk = e.blk) (e4 : e'.off = e.off) (e5 : e'.cap = e.cap) (e6 : e'.born = e.born)
    (ht3 : t ≠ 3) (hrow : row = D.mkv.ownBlock)
    (hoff : Off (fun k => row = some k) w w2)
    (hnew : w2.heap[w.heap.size]? = some (.cells cs t (0, 0))) (hown : w2.ownsRow 0 3 1 (.slice (some ⟨g, 0, none⟩) (D.marked.length + 1) c) (D.marked.length + 1) (i64s D.marked ++ [.int .i64 (e.key : Int)]))
    (hloc : some g = row ∨ w.heap.size ≤ g) :
    Res w a D (putMap ((w2.setCell ⟨a, 6, none⟩ (.slice (some ⟨g, 0, none⟩) (D.marked.length + 1) c)).setCell ⟨w.heap.size, 1, none⟩ u).drew D.mb (pre ++ e' :: post) D.clock)
      { D with ents := pre ++ e' :: post, marked := D.marked ++ [e.key], mka := some ⟨g, 0, none⟩, mkc := c } := by
  have hal := h.lt
  have hml := lt_of_some h.map
  have hwl := lt_of_some h.wds
  subst hrow
  have hF : ∀ k, k ≠ D.mb → k ≠ w.heap.size → k ≠ a → (putMap ((w2.setCell ⟨a, 6, none⟩ (.slice (some ⟨g, 0, none⟩) (D.marked.length + 1) c)).setCell ⟨w.heap.size, 1, none⟩ u).drew D.mb (pre ++ e' :: post) D.clock).heap[k]? = w2.heap[k]? :=
    fun k h1 h2 h3 => (putMap_ne h1).trans ((Below.heap_setCell _ _ _ _ h2).trans (Below.heap_setCell _ _ _ _ h3))
  have hold : ∀ k, k < w.heap.size → D.mkv.ownBlock ≠ some k → w2.heap[k]? = w.heap[k]? := fun k hk hn => hoff.block k hk hn
  have hD : w2.heap[a]? = some (.cells D.cells 52 (0, 0)) := (hold a hal h.ne_mkv).trans h.dev
  have hM : w2.heap[D.mb]? = some (.map (D.ents.map Ent.entry).toArray D.clock) := (hold _ hml h.mb_mkv).trans h.map
  obtain ⟨cur, hgb, hr⟩ : ∃ cur, w2.heap[g]? = some (.cells cur 3 (0, 0)) ∧ D.marked.length + 1 ≤ c ∧ c ≤ maxLen ∧ cur.size = c * 1 ∧ cur.toList.take ((D.marked.length + 1) * 1) = i64s D.marked ++ [.int .i64 (e.key : Int)] := by
    rcases hown.2 with ⟨hx, _⟩ | ⟨g', c', cur, hx, _, hb, r⟩
    · cases hx
    · injection hx with hx1 _ hx2
      injection hx1 with hx1
      injection hx1 with hx1
      subst hx1 hx2
      exact ⟨cur, hb, r⟩
  have hga : g ≠ a := blk_ne hgb hD (by decide)
  have hgm : g ≠ D.mb := blk_map hgb hM
  have hgs : g ≠ w.heap.size := blk_ne hgb hnew (fun e => ht3 e.symm)
  have hents : ∀ x ∈ D.ents, x.lies (putMap ((w2.setCell ⟨a, 6, none⟩ (.slice (some ⟨g, 0, none⟩) (D.marked.length + 1) c)).setCell ⟨w.heap.size, 1, none⟩ u).drew D.mb (pre ++ e' :: post) D.clock) := fun x hx => by
    obtain ⟨cs, hcs, r⟩ := h.ent x hx
    have hxl := lt_of_some hcs
    exact ⟨cs, (hF _ (blk_map hcs h.map) (by omega) (h.ne_ent hx).symm).trans ((hold _ hxl (h.u64_mkv hcs)).trans hcs), r⟩
  refine ⟨⟨?_, ?_, ?_, ?_, ?_, ?_, ?_, stamp_mid h.stamp he e6⟩, ?_, ?_⟩
  · refine (putMap_ne h.ne_mb).trans ?_
    refine (blk_far (p := ⟨w.heap.size, 1, none⟩) (blk_set hD 6 _) (by show a ≠ w.heap.size; omega) u).trans ?_
    simp [Dev.cells]
  · exact (hF _ h.wb_mb (by omega) h.ne_wb.symm).trans ((hold _ hwl (h.u64_mkv h.wds)).trans h.wds)
  · exact putMap_at (by have := hoff.size; show D.mb < ((w2.setCell _ _).setCell _ _).heap.size; simp [World.setCell]; omega)
  · intro x hx
    simp only [List.mem_append, List.mem_cons] at hx
    rcases hx with hx | rfl | hx
    · exact hents x (by rw [he]; simp [hx])
    · obtain ⟨cs, hcs, r1, r2, r3⟩ := hents e (by rw [he]; simp)
      exact ⟨cs, by rw [e3]; exact hcs, by rw [e4, e5]; exact r1, by rw [e2, e5]; exact r2, by rw [e4, e2]; exact r3⟩
    · exact hents x (by rw [he]; simp [hx])
  · refine ⟨by simp [i64s], .inr ⟨g, c, cur, by simp [Dev.mkv], Nat.zero_le _, (hF g hgm hgs hga).trans hgb, ?_⟩⟩
    simpa [i64s] using hr
  · rw [foot_mid he e3]; exact h.nodup
  · rw [keys_mid he e1]; exact h.keys
  · refine Off.putMap (Off.drew (Off.setCell (Off.setCell (hoff.mono (fun k _ hk => .inr (.inr (.inr (.inr hk))))) (fun _ => .inl rfl) _) (fun hx => absurd hx (Nat.lt_irrefl _)) _)) (fun _ => .inr (.inr (.inl rfl)))
  · rintro k (rfl | rfl | rfl | hk | hk)
    · exact .inl (.inl rfl)
    · exact .inl (.inr (.inl rfl))
    · exact .inl (.inr (.inr (.inl rfl)))
    · refine .inl (.inr (.inr (.inr (.inl ?_))))
      rw [← foot_mid he e3]; exact hk
    · simp only [Dev.mkv, Value.ownBlock, Option.some.injEq] at hk
      subst hk
      rcases hloc with hx | hx
      · exact .inl (.inr (.inr (.inr (.inr hx.symm))))
      · exact .inr hx

set_option maxHeartbeats 800000 in
set_option maxRecDepth 100000 in
theorem mark_first (h : Rep w a D) (pre post : List Ent) (e : Ent) (he : D.ents = pre ++ e :: post) (hm : e.mark = 0) (hn : D.marked.length < 1000000000) (hv : 1 ≤ e.vals.length) (hv2 : e.vals.length < 1000000000000) : Calls Tryz.prog 139 #[.pointer (some ⟨a, 0, none⟩), .int .i64 (e.key : Int)] w fun r w' =>
    r = .returned (.tuple #[]) ∧ ∃ mka mkc, Res w a D w' { D with ents := pre ++ { e with mark := e.vals.length - 1 } :: post, marked := D.marked ++ [e.key], mka := mka, mkc := mkc } := by
  obtain ⟨i0, hi0, hz0, hz1, hz2⟩ := info_parts int_info
  have c5 := h.c5
  have c6 := h.c6
  have f6 := h.frozen 6
  have hm0 := h.map
  rw [he] at hm0
  have hl := run_look_some hm0 (h.mid_key he).1 true
  simp only [if_true, Ent.val, hm, Int.natCast_zero] at hl
  have hlt : a < w.heap.size := lt_of_some h.dev
  have hmrk := h.mrk
  unfold Dev.mkv at hmrk
  have hap := ((hmrk.alloc (.cells #[.slice (some ⟨e.blk, e.off, none⟩) e.vals.length e.cap, .int .i64 0] 202)).alloc (.cells #[.int .i64 (e.key : Int)] 3))
  have HAP := Lib.hid hap
  have H := Lib.hid h
  have HE := Lib.hid he
  have HM := Lib.hid hm0
  have HMM := Lib.hid hm
  clear h hm0 he hmrk hap hm
  go_enter Tryz.func139, Tryz.ntmps139
  go_wp2_with (at_builtin; refine wpList_append_own_at _ rfl (.tmp 24) (.tmp 26) 50 rfl 0 3 i0 (.int .i64 0) 1 8 Tryz.underlying50 hi0 hz0 hz1 hz2 rfl (by decide) _ _ _ rfl HAP.out ⟨w.heap.size + 1, 0, none⟩ 1 1 [.int .i64 (e.key : Int)] rfl rfl (cell_one_new2 _ _ _ _) (by simp [Value.oneCell']) (by unfold maxLen; omega) (by omega) (by omega) ?_
               intro v' w2 hown hgrow hnil hloc
               obtain ⟨hold, hnew⟩ := mark_facts H.out hgrow
               obtain ⟨g, c, rfl⟩ := row_form hown (by omega)
               have k5 := (World.cell?_of_block (hold a hlt H.out.ne_mkv)).trans c5
               have k6 := (World.cell?_of_block (hold a hlt H.out.ne_mkv)).trans c6
               have e6 := (World.frozen?_of_block (hold a hlt H.out.ne_mkv)).trans f6
               have k0 := blk_cell hnew 0
               have k1 := blk_cell hnew 1
               have e1 := blk_frozen hnew 1
               have hne : a ≠ w.heap.size := by omega
               have HO := Lib.hid hown
               have HG := Lib.hid hgrow
               have HD := Lib.hid hold
               have HN := Lib.hid hnew
               have HL := Lib.hid hloc
               clear hown hgrow hold hnew hloc hnil)
  have hput := run_put_some (w := ((w2.setCell ⟨a, 6, none⟩ (.slice (some ⟨g, 0, none⟩) (D.marked.length + 1) c)).setCell ⟨w.heap.size, 1, none⟩ (.int .i64 ((e.vals.length : Int) - 1))).drew) (pre := pre) (post := post) (e := e) (e' := { e with mark := e.vals.length - 1 }) (b := D.mb) (c := D.clock) (by
    have h := H.out
    show ((w2.setCell ⟨a, 6, none⟩ _).setCell ⟨w.heap.size, 1, none⟩ _).heap[D.mb]? = _
    have hml := lt_of_some h.map
    rw [Below.heap_setCell _ _ _ _ (by show D.mb ≠ w.heap.size; omega), Below.heap_setCell _ _ _ _ h.ne_mb.symm, HD.out _ hml h.mb_mkv]
    exact HM.out) (H.out.mid_key HE.out).1 rfl rfl
  rw [show Ent.val { e with mark := e.vals.length - 1 } = .agg #[.slice (some ⟨e.blk, e.off, none⟩) e.vals.length e.cap, .int .i64 ((e.vals.length : Int) - 1)] from by simp [Ent.val]; omega] at hput
  go_region
  go_end0
  refine ⟨rfl, some ⟨g, 0, none⟩, c, ?_⟩
  refine mark_res (row := D.mkv.ownBlock) H.out HE.out rfl rfl rfl rfl rfl rfl (by decide) rfl ?_ HN.out HO.out ?_
  · exact (((Off.refl _ _).alloc _).alloc _).grown HG.out (fun k hk _ => hk)
  · rcases HL.out with hx | hx
    · exact .inl hx
    · refine .inr ?_
      simp [Value.ownBlock] at hx
      omega

/-- what is left where the entries alone have turned -/
theorem ents_res {w2 : World} (h : Rep w a D) (l : List Ent) (c : Nat) (hoff : Off (fun k => k ∈ D.ents.map Ent.blk) w w2) (hl : ∀ x ∈ l, x.lies w2) (hn : (D.wb :: l.map Ent.blk).Nodup) (hk : (l.map Ent.key).Nodup) (hst : Stamp l c)
    (hf : ∀ x ∈ l, x.blk ∈ D.ents.map Ent.blk ∨ w.heap.size ≤ x.blk) : Res w a D (putMap w2 D.mb l c) { D with ents := l, clock := c } := by
  have hal := h.lt
  have hml := lt_of_some h.map
  have hwl := lt_of_some h.wds
  have hblk : ∀ {t : TypeId} {cs : Array Value} {k : Nat}, t ≠ 121 → w.heap[k]? = some (.cells cs t (0, 0)) → k ∉ D.ents.map Ent.blk := by
    intro t cs k ht hk hx
    obtain ⟨x, hx2, e⟩ := List.mem_map.1 hx
    obtain ⟨ds, hds, _⟩ := h.ent x hx2
    exact blk_ne hk hds ht e.symm
  have hmb : D.mb ∉ D.ents.map Ent.blk := by
    intro hx
    obtain ⟨x, hx, e⟩ := List.mem_map.1 hx
    obtain ⟨ds, hds, _⟩ := h.ent x hx
    exact blk_map hds h.map e
  have hwb : D.wb ∉ D.ents.map Ent.blk := (List.nodup_cons.1 h.nodup).1
  have hM2 : w2.heap[D.mb]? = some (.map (D.ents.map Ent.entry).toArray D.clock) := (hoff.block _ hml hmb).trans h.map
  refine ⟨⟨?_, ?_, ?_, ?_, ?_, hn, hk, hst⟩, ?_, ?_⟩
  · exact (putMap_ne h.ne_mb).trans ((hoff.block _ hal (hblk (by decide) h.dev)).trans h.dev)
  · exact (putMap_ne h.wb_mb).trans ((hoff.block _ hwl hwb).trans h.wds)
  · exact putMap_at (lt_of_some hM2)
  · intro x hx
    obtain ⟨cs, hcs, r⟩ := hl x hx
    exact ⟨cs, (putMap_ne (blk_map hcs hM2)).trans hcs, r⟩
  · refine row_keep h.mrk (fun g hg => ?_)
    have hgl := h.foot_lt (.inr (.inr (.inr (.inr hg))))
    have hgm : g ≠ D.mb := fun e => h.mb_mkv (by rw [← e]; exact hg)
    refine (putMap_ne hgm).trans (hoff.block _ hgl (fun hx => ?_))
    obtain ⟨x, hx2, e⟩ := List.mem_map.1 hx
    obtain ⟨ds, hds, _⟩ := h.ent x hx2
    exact h.u64_mkv hds (by rw [e]; exact hg)
  · exact Off.putMap (hoff.mono (fun k _ hk => .inr (.inr (.inr (.inl hk))))) (fun _ => .inr (.inr (.inl rfl)))
  · rintro k (rfl | rfl | rfl | hk | hk)
    · exact .inl (.inl rfl)
    · exact .inl (.inr (.inl rfl))
    · exact .inl (.inr (.inr (.inl rfl)))
    · obtain ⟨x, hx, rfl⟩ := List.mem_map.1 hk
      rcases hf x hx with hy | hy
      · exact .inl (.inr (.inr (.inr (.inl hy))))
      · exact .inr hy
    · exact .inl (.inr (.inr (.inr (.inr hk))))

/-- an entry turned in place -/
theorem mid_res {w2 : World} (h : Rep w a D) {pre post : List Ent} {e e' : Ent} (he : D.ents = pre ++ e :: post) (e1 : e'.key = e.key) (e6 : e'.born = e.born) (e3 : e'.blk = e.blk) (hoff : Off (fun k => k = e.blk) w w2) (hl : e'.lies w2) :
    Res w a D (putMap w2 D.mb (pre ++ e' :: post) D.clock) { D with ents := pre ++ e' :: post } := by
  have hnd := h.nodup
  rw [he, List.map_append, List.map_cons] at hnd
  have hmid := nodup_mid (List.nodup_cons.1 hnd).2
  have hmem : ∀ x, x ∈ pre ∨ x ∈ post → x ∈ D.ents := by intro x hx; rw [he]; simp only [List.mem_append, List.mem_cons]; rcases hx with hx | hx <;> simp [hx]
  have hoth : ∀ x, x ∈ pre ∨ x ∈ post → x.blk ≠ e.blk := by
    rintro x (hx | hx) hxe
    · exact hmid.1 (by rw [← hxe]; exact List.mem_map_of_mem hx)
    · exact hmid.2 (by rw [← hxe]; exact List.mem_map_of_mem hx)
  refine ents_res h (pre ++ e' :: post) D.clock (hoff.mono (fun k _ hk => ?_)) ?_ ?_ ?_ (stamp_mid h.stamp he e6) ?_
  · subst hk; rw [he]; simp
  · intro x hx
    simp only [List.mem_append, List.mem_cons] at hx
    have hxx : x = e' ∨ (x ∈ pre ∨ x ∈ post) := by rcases hx with hx | hx | hx <;> simp [hx]
    rcases hxx with rfl | hx
    · exact hl
    · exact lies_keep (h.ent x (hmem x hx)) (hoff.block _ (h.foot_lt (.inr (.inr (.inr (.inl (List.mem_map_of_mem (hmem x hx))))))) (hoth x hx))
  · rw [foot_mid he e3]; exact h.nodup
  · rw [keys_mid he e1]; exact h.keys
  · intro x hx
    refine .inl ?_
    rw [← foot_mid he e3]
    exact List.mem_map_of_mem hx

set_option maxHeartbeats 800000 in
set_option maxRecDepth 100000 in
theorem mark_again (h : Rep w a D) (pre post : List Ent) (e : Ent) (he : D.ents = pre ++ e :: post) (hm : 0 < e.mark) (hv : 1 ≤ e.vals.length) (hv2 : e.vals.length < 1000000000000) : Calls Tryz.prog 139 #[.pointer (some ⟨a, 0, none⟩), .int .i64 (e.key : Int)] w fun r w' =>
    r = .returned (.tuple #[]) ∧ Res w a D w' { D with ents := pre ++ { e with mark := e.vals.length - 1 } :: post } := by
  have c5 := h.c5
  have hm0 := h.map
  rw [he] at hm0
  have hl := run_look_some hm0 (h.mid_key he).1 true
  simp only [if_true, Ent.val] at hl
  have hlt : a < w.heap.size := h.lt
  have hm1 : ((e.mark : Int) == 0) = false := by simp; omega
  have hput := run_put_some (w := (w.alloc (.cells #[.slice (some ⟨e.blk, e.off, none⟩) e.vals.length e.cap, .int .i64 ((e.vals.length : Int) - 1)] 202)).drew) (pre := pre) (post := post) (e := e) (e' := { e with mark := e.vals.length - 1 }) (b := D.mb) (c := D.clock) (by
    have hml := lt_of_some h.map
    exact (Below.heap_alloc _ _ _ hml).trans hm0) (h.mid_key he).1 rfl rfl
  rw [show Ent.val { e with mark := e.vals.length - 1 } = .agg #[.slice (some ⟨e.blk, e.off, none⟩) e.vals.length e.cap, .int .i64 ((e.vals.length : Int) - 1)] from by simp [Ent.val]; omega] at hput
  have H := Lib.hid h
  have HE := Lib.hid he
  clear h hm0 he
  go_enter Tryz.func139, Tryz.ntmps139
  go_wp2
  go_region
  go_end0
  have h := H.out
  have he := HE.out
  refine ⟨rfl, mid_res h he rfl rfl rfl ?_ ?_⟩
  · exact Off.drew (Off.alloc (Off.refl _ _) _)
  · obtain ⟨cs, hcs, r⟩ := h.ent e (by rw [he]; simp)
    have hel := lt_of_some hcs
    exact ⟨cs, (Below.heap_alloc _ _ _ hel).trans hcs, r⟩
end
end Pm
end Go.Proofs.YtilolepbfmcbgaaGreatDoor
/- The device's settle. -/
namespace Go.Proofs.YtilolepbfmcbgaaGreatDoor
open Go.RowKit Go.MapKept
namespace Pm
section
variable {w : World} {a : Nat} {D : Dev}

set_option maxHeartbeats 800000 in
set_option maxRecDepth 100000 in
theorem settle_one (h : Rep w a D) (pre post : List Ent) (e : Ent) (he : D.ents = pre ++ e :: post) (hm : e.mark + 1 = e.vals.length) (hc : e.vals.length ≤ e.cap) : Calls Tryz.prog 182 #[.pointer (some ⟨a, 0, none⟩), .int .i64 (e.key : Int)] w fun r w' =>
    r = .returned (.tuple #[]) ∧ Res w a D w' { D with ents := pre ++ post } := by
  have c5 := h.c5
  have hm0 := h.map
  rw [he] at hm0
  have hl := run_look_some hm0 (h.mid_key he).1 false
  simp only [Ent.val] at hl
  have hlt : a < w.heap.size := h.lt
  obtain ⟨n, hn⟩ : ∃ n, n = e.vals.length := ⟨_, rfl⟩
  rw [← hn] at hl hm hc
  have g1 : e.mark < n := by omega
  have g2 : n < e.mark + 2 := by omega
  have g3 : e.cap ≠ e.mark := by omega
  have hml := lt_of_some h.map
  have hdel := run_del_some (w := w.alloc (.cells #[.slice (some ⟨e.blk, e.off + e.mark, none⟩) (n - e.mark) (e.cap - e.mark), .int .i64 (e.mark : Int)] 202)) (b := D.mb) (c := D.clock) (e := e) (pre := pre) (post := post) 0 ((Below.heap_alloc _ _ _ hml).trans hm0) (h.mid_key he).1
  have HN := Lib.hid hn
  have H := Lib.hid h
  have HE := Lib.hid he
  clear h hm0 he hm hn
  go_enter Tryz.func182, Tryz.ntmps182
  go_wp2
  refine bodyPost_ret (results_none rfl _ _ _) rfl ?_
  have h := H.out
  have he := HE.out
  have hsub : (pre ++ post).Sublist D.ents := by
    rw [he]
    exact List.Sublist.append (List.Sublist.refl _) (List.sublist_cons_self _ _)
  refine ⟨rfl, ents_res h (pre ++ post) D.clock (Off.alloc (Off.refl _ _) _) ?_ ?_ ?_ ⟨fun x hx => h.stamp.1 x (hsub.subset hx), (hsub.map Ent.born).nodup h.stamp.2⟩ ?_⟩
  · intro x hx
    have hx := hsub.subset hx
    exact lies_keep (h.ent x hx) (Below.heap_alloc _ _ _ (h.foot_lt (.inr (.inr (.inr (.inl (List.mem_map_of_mem hx)))))))
  · exact ((hsub.map Ent.blk).cons_cons D.wb).nodup h.nodup
  · exact (hsub.map Ent.key).nodup h.keys
  · intro x hx
    exact .inl (List.mem_map_of_mem (hsub.subset hx))

set_option maxHeartbeats 800000 in
set_option maxRecDepth 100000 in
theorem settle_more (h : Rep w a D) (pre post : List Ent) (e : Ent) (he : D.ents = pre ++ e :: post) (hm : e.mark + 1 < e.vals.length) (hc : e.vals.length ≤ e.cap) : Calls Tryz.prog 182 #[.pointer (some ⟨a, 0, none⟩), .int .i64 (e.key : Int)] w fun r w' =>
    r = .returned (.tuple #[]) ∧ Res w a D w' { D with ents := pre ++ { e with vals := e.vals.drop e.mark, mark := 0, off := e.off + e.mark, cap := e.cap - e.mark } :: post } := by
  have c5 := h.c5
  have hm0 := h.map
  rw [he] at hm0
  have hl := run_look_some hm0 (h.mid_key he).1 false
  simp only [Ent.val] at hl
  have hlt : a < w.heap.size := h.lt
  obtain ⟨n, hn⟩ : ∃ n, n = e.vals.length := ⟨_, rfl⟩
  rw [← hn] at hl hm hc
  have g1 : e.mark < n := by omega
  have g2 : e.mark + 2 ≤ n := by omega
  have g3 : e.cap ≠ e.mark := by omega
  have hml := lt_of_some h.map
  have hput := run_put_some (w := (w.alloc (.cells #[.slice (some ⟨e.blk, e.off + e.mark, none⟩) (n - e.mark) (e.cap - e.mark), .int .i64 0] 202)).drew) (pre := pre) (post := post) (e := e) (e' := { e with vals := e.vals.drop e.mark, mark := 0, off := e.off + e.mark, cap := e.cap - e.mark }) (b := D.mb) (c := D.clock)
    ((Below.heap_alloc _ _ _ hml).trans hm0) (h.mid_key he).1 rfl rfl
  rw [show Ent.val { e with vals := e.vals.drop e.mark, mark := 0, off := e.off + e.mark, cap := e.cap - e.mark } = .agg #[.slice (some ⟨e.blk, e.off + e.mark, none⟩) (n - e.mark) (e.cap - e.mark), .int .i64 0] from by simp [Ent.val, hn]] at hput
  have HN := Lib.hid hn
  have H := Lib.hid h
  have HE := Lib.hid he
  clear h hm0 he hm hn
  go_enter Tryz.func182, Tryz.ntmps182
  go_wp2
  go_region
  go_end0
  have h := H.out
  have he := HE.out
  have hn := HN.out
  refine ⟨rfl, mid_res h he rfl rfl rfl (Off.drew (Off.alloc (Off.refl _ _) _)) ?_⟩
  obtain ⟨cs, hcs, r1, r2, r3⟩ := h.ent e (by rw [he]; simp)
  have hel := lt_of_some hcs
  refine ⟨cs, (Below.heap_alloc _ _ _ hel).trans hcs, ?_, ?_, ?_⟩
  · show e.off + e.mark + (e.cap - e.mark) = cs.size
    omega
  · show (e.vals.drop e.mark).length ≤ e.cap - e.mark
    rw [List.length_drop]; omega
  · show (cs.toList.drop (e.off + e.mark)).take (e.vals.drop e.mark).length = u64s (e.vals.drop e.mark)
    have := congrArg (List.drop e.mark) r3
    rw [List.drop_take, List.drop_drop] at this
    rw [List.length_drop, this]
    simp [u64s, List.map_drop]
end
end Pm
end Go.Proofs.YtilolepbfmcbgaaGreatDoor
/- The device's Store. -/
namespace Go.Proofs.YtilolepbfmcbgaaGreatDoor
open Go.RowKit Go.MapKept
namespace Pm
section
variable {w : World} {a : Nat} {D : Dev}

theorem store_none (h : Rep w a D) (i : Int) (x : Int) (hi : D.hasB i = false) : Calls Tryz.prog 95 #[.pointer (some ⟨a, 0, none⟩), .int .i64 i, .int .u64 x] w fun e w' => e = .returned (.bool false) ∧ w = w' := by
  have hc := has_any h i
  rw [hi] at hc
  have H := Lib.hid hc
  clear hc hi h
  go_enter Tryz.func95, Tryz.ntmps95
  go_wp2_with (go_at_call 136; refine H.out.mono ?_; rintro e w' ⟨rfl, rfl⟩)
  go_ret
  exact ⟨rfl, rfl⟩

theorem store_down (h : Rep w a D) (i : Int) (x : Int) (hd : D.down = true) : Calls Tryz.prog 95 #[.pointer (some ⟨a, 0, none⟩), .int .i64 i, .int .u64 x] w fun e w' => e = .returned (.bool false) ∧ w = w' := by
  cases hi : D.hasB i
  · exact store_none h i x hi
  · have hc := has_any h i
    have hs := step_no h hd
    rw [hi] at hc
    have H := Lib.hid hc
    have HS := Lib.hid hs
    clear hc hi h hs hd
    go_enter Tryz.func95, Tryz.ntmps95
    go_wp2_with (first
      | (go_at_call 136; refine H.out.mono ?_; rintro e w' ⟨rfl, rfl⟩)
      | (go_at_call 137; refine HS.out.mono ?_; rintro e w' ⟨rfl, rfl⟩))
    go_ret
    exact ⟨rfl, rfl⟩

theorem step_res {w1 : World} (h : Rep w1 a D.stepped) (ho : Off (fun k => k = a) w w1) : Res w a D w1 D.stepped := ⟨h, ho.mono (fun _ _ h => .inl h), fun _ h => .inl h⟩

/-- the counts behind a store -/
def Dev.stored (D : Dev) : Dev := { D.stepped with stores := D.stores + 1 }
theorem stored_rep {w1 : World} (h : Rep w1 a D.stepped) : Res w1 a D.stepped (w1.setCell ⟨a, 1, none⟩ (.int .i64 ((D.stores : Int) + 1))) D.stored := by
  refine ⟨h.turn (D' := D.stored) ?_ (fun k hk hne => Below.heap_setCell _ _ _ _ hne) rfl rfl rfl rfl rfl rfl rfl rfl, (Off.refl _ _).setCell (fun _ => .inl rfl) _, fun k hk => .inl hk⟩
  rw [blk_set h.dev 1 _]
  simp [Dev.cells, Dev.stored, Dev.stepped]

/-- an entry turned, in its own block or in a new one -/
theorem put_res {w2 : World} (h : Rep w a D) {pre post : List Ent} {e e' : Ent} (he : D.ents = pre ++ e :: post) (e1 : e'.key = e.key) (e6 : e'.born = e.born) (hoff : Off (fun k => k = e.blk) w w2) (hl : e'.lies w2) (hb : e'.blk = e.blk ∨ w.heap.size ≤ e'.blk) :
    Res w a D (putMap w2 D.mb (pre ++ e' :: post) D.clock) { D with ents := pre ++ e' :: post } := by
  rcases hb with hb | hb
  · exact mid_res h he e1 e6 hb hoff hl
  have hnd := h.nodup
  rw [he, List.map_append, List.map_cons] at hnd
  have hmid := nodup_mid (List.nodup_cons.1 hnd).2
  have hmem : ∀ x, x ∈ pre ∨ x ∈ post → x ∈ D.ents := by intro x hx; rw [he]; simp only [List.mem_append, List.mem_cons]; rcases hx with hx | hx <;> simp [hx]
  have hoth : ∀ x, x ∈ pre ∨ x ∈ post → x.blk ≠ e.blk := by
    rintro x (hx | hx) hxe
    · exact hmid.1 (by rw [← hxe]; exact List.mem_map_of_mem hx)
    · exact hmid.2 (by rw [← hxe]; exact List.mem_map_of_mem hx)
  have hlt : ∀ x, x ∈ pre ∨ x ∈ post → x.blk < w.heap.size := fun x hx => h.foot_lt (.inr (.inr (.inr (.inl (List.mem_map_of_mem (hmem x hx))))))
  have hwl := lt_of_some h.wds
  refine ents_res h (pre ++ e' :: post) D.clock (hoff.mono (fun k _ hk => ?_)) ?_ ?_ ?_ (stamp_mid h.stamp he e6) ?_
  · subst hk; rw [he]; simp
  · intro x hx
    simp only [List.mem_append, List.mem_cons] at hx
    have hxx : x = e' ∨ (x ∈ pre ∨ x ∈ post) := by rcases hx with hx | hx | hx <;> simp [hx]
    rcases hxx with rfl | hx
    · exact hl
    · exact lies_keep (h.ent x (hmem x hx)) (hoff.block _ (hlt x hx) (hoth x hx))
  · rw [List.map_append, List.map_cons]
    have h1 := List.nodup_cons.1 hnd
    have h2 := List.nodup_append.1 h1.2
    have h3 := List.nodup_cons.1 h2.2.1
    have n1 : e'.blk ∉ pre.map Ent.blk := fun hx => by
      obtain ⟨x, hx, hxe⟩ := List.mem_map.1 hx
      have := hlt x (.inl hx); omega
    have n2 : e'.blk ∉ post.map Ent.blk := fun hx => by
      obtain ⟨x, hx, hxe⟩ := List.mem_map.1 hx
      have := hlt x (.inr hx); omega
    refine List.nodup_cons.2 ⟨?_, List.nodup_append.2 ⟨h2.1, List.nodup_cons.2 ⟨n2, h3.2⟩, ?_⟩⟩
    · intro hx
      simp only [List.mem_append, List.mem_cons] at hx
      rcases hx with hx | hx | hx
      · exact h1.1 (by simp only [List.mem_append]; exact .inl hx)
      · omega
      · exact h1.1 (by simp only [List.mem_append, List.mem_cons]; exact .inr (.inr hx))
    · intro x hx y hy hxy
      subst hxy
      rcases List.mem_cons.1 hy with rfl | hy
      · exact n1 hx
      · exact h2.2.2 _ hx _ (List.mem_cons_of_mem _ hy) rfl
  · rw [keys_mid he e1]; exact h.keys
  · intro x hx
    simp only [List.mem_append, List.mem_cons] at hx
    have hxx : x = e' ∨ (x ∈ pre ∨ x ∈ post) := by rcases hx with hx | hx | hx <;> simp [hx]
    rcases hxx with rfl | hx
    · exact .inr hb
    · exact .inl (List.mem_map_of_mem (hmem x hx))

/-- a word turned -/
theorem word_res (h : Rep w a D) (i : Nat) (hi : i < D.words.length) (x : Int) : Res w a D (w.setCell ⟨D.wb, i, none⟩ (.int .u64 x)) { D with words := D.words.set i x } := by
  have hnb : ∀ e ∈ D.ents, e.blk ≠ D.wb := fun e he hx => (List.nodup_cons.1 h.nodup).1 (by rw [← hx]; exact List.mem_map_of_mem he)
  refine ⟨⟨?_, ?_, ?_, ?_, ?_, h.nodup, h.keys, h.stamp⟩, (Off.refl _ _).setCell (fun _ => .inr (.inl rfl)) _, fun k hk => .inl hk⟩
  · rw [Below.heap_setCell _ _ _ _ h.ne_wb, h.dev]
    simp [Dev.cells]
  · have e : (u64s D.words ++ D.spare).toArray.setIfInBounds i (.int .u64 x) = (u64s (D.words.set i x) ++ D.spare).toArray := by
      rw [List.setIfInBounds_toArray, List.set_append_left _ _ (by simpa [u64s] using hi)]
      simp [u64s, List.map_set]
    rw [blk_set h.wds i _, e]
  · exact (Below.heap_setCell _ _ _ _ h.wb_mb.symm).trans h.map
  · exact fun e he => lies_keep (h.ent e he) (Below.heap_setCell _ _ _ _ (hnb e he))
  · refine row_keep h.mrk (fun g hg => Below.heap_setCell _ _ _ _ (fun e => h.u64_mkv h.wds (hg.trans (congrArg some e))))

/-- append to an entry's values, with room or without -/
theorem wpList_append_ent {P : Program} (W : World) {ops : Array Oper} {rest : List Oper} {o : Oper} {act : Act} {Q : Exit → Act → World → Prop}
    (hg : o.guard = none) (s y : Operand) (t : TypeId) (hop : o.op = Op.call { callee := Callee.builtin Builtin.append, args := #[s, y], argTypes := #[t, t] })
    (i : TypeInfo) (h1 : P.underlying t = some (.slice 121)) (h2 : P.info? 121 = some i) (h3 : i.zero = some (.int .u64 0)) (h4 : i.size = 1) (h5 : i.bytes = 8)
    (e : Ent) (hl : e.lies W) (hs : act.eval s = .slice (some ⟨e.blk, e.off, none⟩) e.vals.length e.cap) (x : Int) (ad : Addr) (c : Nat) (hx : act.eval y = .slice (some ad) 1 c) (hc : ∀ j u, [Value.int .u64 x][j]? = some u → W.cell? (ad.add j) = some u)
    (hv : e.vals.length < 1000000000000)
    (hK : ∀ blk off cap w', Ent.lies w' { e with vals := e.vals ++ [x], blk := blk, off := off, cap := cap } → Off (fun k => k = e.blk) W w' → (blk = e.blk ∨ W.heap.size ≤ blk) →
      wpList P ops Q rest (act.put o.dst (.slice (some ⟨blk, off, none⟩) (e.vals.length + 1) cap)) w') :
    wpList P ops Q (o :: rest) act W := by
  obtain ⟨cs, hcs, r1, r2, r3⟩ := hl
  have hcell : ∀ j u, (u64s e.vals)[j]? = some u → W.cell? ⟨e.blk, e.off + j, none⟩ = some u := by
    intro j u hj
    rw [blk_cell hcs, ← hj, ← r3]
    have hjl : j < e.vals.length := by
      have := (List.getElem?_eq_some_iff.1 hj).1
      simpa [u64s] using this
    rw [List.getElem?_take, if_pos hjl, List.getElem?_drop, Array.getElem?_toList]
  refine wpList_append_arg W hg s y t hop 121 i (.int .u64 0) 1 8 h1 h2 h3 h4 h5 rfl (by decide) e.blk e.off e.vals.length e.cap (u64s e.vals) hs (by simp [u64s]) hcell ad 1 c [.int .u64 x] hx rfl hc (by simp [Value.oneCell']) ?_ (by unfold maxLen; omega) (by omega) ?_ ?_
  · intro hr j hj
    have hj0 : j = 0 := by simpa using hj
    subst hj0
    refine ⟨?_, blk_frozen hcs _⟩
    rw [blk_cell hcs, Array.getElem?_eq_getElem (by omega)]
    rfl
  · intro hr
    refine hK e.blk e.off e.cap _ ⟨cs.setIfInBounds (e.off + e.vals.length) (.int .u64 x), ?_, ?_, ?_, ?_⟩ ?_ (.inl rfl)
    · simp only [World.setCells, Nat.mul_one]
      exact blk_set hcs _ _
    · simpa using r1
    · simpa using hr
    · show (((cs.setIfInBounds (e.off + e.vals.length) (.int .u64 x)).toList).drop e.off).take (e.vals ++ [x]).length = u64s (e.vals ++ [x])
      rw [Array.toList_setIfInBounds, List.drop_set, if_neg (by omega), show e.off + e.vals.length - e.off = e.vals.length by omega, List.length_append, List.length_singleton]
      have hlen : e.vals.length < (cs.toList.drop e.off).length := by simp; omega
      rw [List.take_set, List.take_add_one, r3, List.getElem?_eq_getElem hlen]
      simp [u64s]
    · simp only [World.setCells, Nat.mul_one]
      exact (Off.refl (fun k => k = e.blk) W).setCell (fun _ => rfl) _
  · intro hr v' w' hown hgr
    rcases hown.2 with ⟨_, h0⟩ | ⟨g, cap, cur, rfl, hb, hgb, q1, q2, q3, q4⟩
    · omega
    · refine hK g 0 cap w' ⟨cur, hgb, by simpa using q3.symm, by simpa using q1, ?_⟩ ?_ (.inr hb)
      · simpa [u64s] using q4
      · exact (Off.refl _ _).grown hgr (fun k hk => by cases hk)

/-- what holds behind the append, and what the map's store then does -/
theorem store_facts {w2 w5 : World} {pre post : List Ent} {e : Ent} {x : Int} {blk off cap : Nat} (h : Rep w2 a D) (he : D.ents = pre ++ e :: post) (hk : e.key < D.words.length)
    (hl : Ent.lies w5 { e with vals := e.vals ++ [x], blk := blk, off := off, cap := cap })
    (ho : Off (fun k => k = e.blk) ((w2.alloc (.cells #[.slice (some ⟨e.blk, e.off, none⟩) e.vals.length e.cap, .int .i64 (e.mark : Int)] 202)).alloc (.cells #[.int .u64 x] 121)) w5)
    (hb : blk = e.blk ∨ w2.heap.size + 2 ≤ blk) :
    w5.cell? ⟨a, 4, none⟩ = some (.slice (some ⟨D.wb, 0, none⟩) D.words.length D.wcap) ∧ w5.cell? ⟨a, 5, none⟩ = some (.map (some D.mb)) ∧
    w5.cell? ⟨w2.heap.size, 0, none⟩ = some (.slice (some ⟨e.blk, e.off, none⟩) e.vals.length e.cap) ∧ w5.cell? ⟨w2.heap.size, 1, none⟩ = some (.int .i64 (e.mark : Int)) ∧ w5.frozen? ⟨w2.heap.size, 0, none⟩ = false ∧
    ∃ w7, (Instr.mapUpdate 49 (.map (some D.mb)) (.int .i64 (e.key : Int)) (.agg #[.slice (some ⟨blk, off, none⟩) (e.vals.length + 1) cap, .int .i64 (e.mark : Int)])).run Tryz.prog (w5.setCell ⟨w2.heap.size, 0, none⟩ (.slice (some ⟨blk, off, none⟩) (e.vals.length + 1) cap)).drew = .ok () w7 ∧
      Res w2 a D w7 { D with ents := pre ++ { e with vals := e.vals ++ [x], blk := blk, off := off, cap := cap } :: post } ∧
      w7.cell? ⟨a, 4, none⟩ = some (.slice (some ⟨D.wb, 0, none⟩) D.words.length D.wcap) ∧ w7.cell? ⟨D.wb, e.key, none⟩ = some (.int .u64 D.words[e.key]) ∧ w7.frozen? ⟨D.wb, e.key, none⟩ = false := by
  have hel := h.foot_lt (k := e.blk) (.inr (.inr (.inr (.inl (by rw [he]; simp)))))
  have hae : a ≠ e.blk := h.ne_ent (by rw [he]; simp)
  have hal := h.lt
  have hml := lt_of_some h.map
  have hme : D.mb ≠ e.blk := by
    obtain ⟨cs, hcs, _⟩ := h.ent e (by rw [he]; simp)
    exact (blk_map hcs h.map).symm
  have hD : w5.heap[a]? = some (.cells D.cells 52 (0, 0)) := (ho.block a (by simp; omega) hae).trans (blk_alloc (blk_alloc h.dev _) _)
  have hN : w5.heap[w2.heap.size]? = some (.cells #[.slice (some ⟨e.blk, e.off, none⟩) e.vals.length e.cap, .int .i64 (e.mark : Int)] 202 (0, 0)) :=
    (ho.block _ (by simp; omega) (by omega)).trans (blk_alloc (heap_alloc w2 _).1 _)
  have hM : w5.heap[D.mb]? = some (.map ((pre ++ e :: post).map Ent.entry).toArray D.clock) := (ho.block _ (by simp; omega) hme).trans (blk_alloc (blk_alloc (by rw [← he]; exact h.map) _) _)
  have hM6 : (w5.setCell ⟨w2.heap.size, 0, none⟩ (.slice (some ⟨blk, off, none⟩) (e.vals.length + 1) cap)).drew.heap[D.mb]? = some (.map ((pre ++ e :: post).map Ent.entry).toArray D.clock) :=
    blk_far hM (by show D.mb ≠ w2.heap.size; omega) _
  have hput := run_put_some (e' := { e with vals := e.vals ++ [x], blk := blk, off := off, cap := cap }) hM6 (h.mid_key he).1 rfl rfl
  have hres := put_res (w2 := (w5.setCell ⟨w2.heap.size, 0, none⟩ (.slice (some ⟨blk, off, none⟩) (e.vals.length + 1) cap)).drew) h he (e' := { e with vals := e.vals ++ [x], blk := blk, off := off, cap := cap }) rfl rfl
    (Off.drew (Off.setCell (((Off.refl _ _).alloc _).alloc _ |>.trans ho (fun _ _ h => h)) (fun hx => absurd hx (Nat.lt_irrefl _)) _)) (by
      obtain ⟨cs, hcs, r⟩ := hl
      exact ⟨cs, blk_far hcs (by show blk ≠ w2.heap.size; omega) _, r⟩) (by
      rcases hb with hb | hb
      · exact .inl hb
      · exact .inr (by show w2.heap.size ≤ blk; omega))
  refine ⟨blk_cell hD 4, blk_cell hD 5, blk_cell hN 0, blk_cell hN 1, blk_frozen hN 0, _, ?_, hres, hres.rep.c4, ?_, blk_frozen hres.rep.wds _⟩
  · rw [← hput]
    simp [Ent.val]
  · exact hres.rep.word e.key hk

set_option maxHeartbeats 1600000 in
set_option maxRecDepth 100000 in
theorem store_old (h : Rep w a D) (x : Int) (hd : D.down = false) (pre post : List Ent) (e : Ent) (he : D.ents = pre ++ e :: post) (hk : e.key < D.words.length) (hs : D.steps < 4611686018427387904) (hl : D.left < 4611686018427387904) (hst : D.stores < 4611686018427387904) (hv : e.vals.length < 1000000000000) :
    Calls Tryz.prog 95 #[.pointer (some ⟨a, 0, none⟩), .int .i64 (e.key : Int), .int .u64 x] w fun r w' => r = .returned (.bool true) ∧ ∃ blk off cap,
      Res w a D w' { D.stored with words := D.words.set e.key x, ents := pre ++ { e with vals := e.vals ++ [x], blk := blk, off := off, cap := cap } :: post } := by
  obtain ⟨i0, hi0, hz0, hz1, hz2⟩ := info_parts u64_info
  have hc := has_any h (e.key : Int)
  rw [has_yes (by omega) (by omega)] at hc
  have H1 := Lib.hid hc
  have H2 := Lib.hid (step_yes h hd hs hl)
  have H := Lib.hid h
  have HE := Lib.hid he
  clear hc h he hd hs hl
  go_enter Tryz.func95, Tryz.ntmps95
  go_wp2_with (first
    | (go_at_call 136; refine H1.out.mono ?_; rintro e w' ⟨rfl, rfl⟩)
    | (go_at_call 137; refine H2.out.mono ?_; rintro r w1 ⟨rfl, hr1, ho1, hz1s⟩
       have c1 : w1.cell? ⟨a, 1, none⟩ = some (.int .i64 (D.stores : Int)) := hr1.c1
       have c4 : w1.cell? ⟨a, 4, none⟩ = some (.slice (some ⟨D.wb, 0, none⟩) D.words.length D.wcap) := hr1.c4
       have c5 : w1.cell? ⟨a, 5, none⟩ = some (.map (some D.mb)) := hr1.c5
       have f1 := hr1.frozen 1
       have hlt := hr1.lt
       have hr2 := stored_rep hr1
       have hm2 : (w1.setCell ⟨a, 1, none⟩ (.int .i64 ((D.stores : Int) + 1))).heap[D.mb]? = some (.map ((pre ++ e :: post).map Ent.entry).toArray D.clock) := by
         rw [← HE.out]; exact hr2.rep.map
       have hlk := run_look_some hm2 (H.out.mid_key HE.out).1 true
       simp only [if_true, Ent.val] at hlk
       have hl4 : e.lies (((w1.setCell ⟨a, 1, none⟩ (.int .i64 ((D.stores : Int) + 1))).alloc (.cells #[.slice (some ⟨e.blk, e.off, none⟩) e.vals.length e.cap, .int .i64 (e.mark : Int)] 202)).alloc (.cells #[.int .u64 x] 121)) := by
         have hl := hr2.rep.ent e (by show e ∈ D.ents; rw [HE.out]; simp)
         obtain ⟨cs, hcs, r⟩ := hl
         exact ⟨cs, blk_alloc (blk_alloc hcs _) _, r⟩
       have HL4 := Lib.hid hl4
       have HR1 := Lib.hid hr1
       have HR2 := Lib.hid hr2
       have HO1 := Lib.hid ho1
       have HZ := Lib.hid hz1s
       clear hr1 hr2 ho1 hz1s hm2 hl4)
    | (at_builtin; refine wpList_append_ent _ rfl (.tmp 40) (.tmp 42) 22 rfl i0 Tryz.underlying22 hi0 hz0 hz1 hz2 e HL4.out rfl x ⟨w1.heap.size + 1, 0, none⟩ 1 rfl ?_ hv ?_
       · have := cell_one_new2 (w1.setCell ⟨a, 1, none⟩ (.int .i64 ((D.stores : Int) + 1))) (.cells #[.slice (some ⟨e.blk, e.off, none⟩) e.vals.length e.cap, .int .i64 (e.mark : Int)] 202) (.int .u64 x) 121
         simpa [World.setCell] using this
       intro blk off cap w5 hl5 ho5 hb5
       have hz2s : (w1.setCell ⟨a, 1, none⟩ (.int .i64 ((D.stores : Int) + 1))).heap.size = w1.heap.size := by simp [World.setCell]
       obtain ⟨k4, k5, k0, k1, e0, w7, hput, HR7, j4, jw, jf⟩ := store_facts HR2.out.rep HE.out hk hl5 ho5 (by rw [hz2s]; simpa [World.setCell] using hb5)
       rw [hz2s] at k0 k1 e0 hput
       have HX := Lib.hid HR7
       clear HR7 hl5 ho5 hb5 hz2s))
  have hDw : D.stored.words = D.words := rfl
  have hDb : D.stored.wb = D.wb := rfl
  have hDm : D.stored.mb = D.mb := rfl
  simp only [hDw, hDb, hDm] at k4 k5 hput j4 jw jf
  go_region
  go_wp2
  go_ret
  have hfin := word_res HX.out.rep e.key hk x
  refine ⟨rfl, blk, off, cap, ?_⟩
  exact (((step_res HR1.out HO1.out).trans HR2.out).trans HX.out).trans hfin

theorem stamp_snoc {l : List Ent} {e : Ent} {c : Nat} (h : Stamp l c) (hb : e.born = c) : Stamp (l ++ [e]) (c + 1) := by
  refine ⟨?_, ?_⟩
  · intro x hx
    rcases List.mem_append.1 hx with hx | hx
    · have := h.1 x hx; omega
    · rw [List.mem_singleton.1 hx]; omega
  · rw [List.map_append]
    refine List.nodup_append.2 ⟨h.2, by simp, ?_⟩
    intro x hx y hy hxy
    have hy : y = e.born := by simpa using hy
    obtain ⟨z, hz, rfl⟩ := List.mem_map.1 hx
    have := h.1 z hz
    omega

/-- a new entry -/
theorem fresh_res {w2 : World} (h : Rep w a D) (e : Ent) (hk : e.key ∉ D.ents.map Ent.key) (hoff : Off (fun _ => False) w w2) (hl : e.lies w2) (hb : w.heap.size ≤ e.blk) (hbn : e.born = D.clock) :
    Res w a D (putMap w2 D.mb (D.ents ++ [e]) (D.clock + 1)) { D with ents := D.ents ++ [e], clock := D.clock + 1 } := by
  have hlt : ∀ x ∈ D.ents, x.blk < w.heap.size := fun x hx => h.foot_lt (.inr (.inr (.inr (.inl (List.mem_map_of_mem hx)))))
  have hwl := lt_of_some h.wds
  have hnd := List.nodup_cons.1 h.nodup
  refine ents_res h (D.ents ++ [e]) (D.clock + 1) (hoff.mono (fun _ _ h => h.elim)) ?_ ?_ ?_ (stamp_snoc h.stamp hbn) ?_
  · intro x hx
    rcases List.mem_append.1 hx with hx | hx
    · exact lies_keep (h.ent x hx) (hoff.block _ (hlt x hx) id)
    · rw [List.mem_singleton.1 hx]; exact hl
  · rw [List.map_append]
    have n1 : e.blk ∉ D.ents.map Ent.blk := fun hx => by
      obtain ⟨x, hx, hxe⟩ := List.mem_map.1 hx
      have := hlt x hx; omega
    refine List.nodup_cons.2 ⟨?_, List.nodup_append.2 ⟨hnd.2, by simp, ?_⟩⟩
    · intro hx
      rcases List.mem_append.1 hx with hx | hx
      · exact hnd.1 hx
      · have : D.wb = e.blk := by simpa using hx
        omega
    · intro x hx y hy hxy
      have : y = e.blk := by simpa using hy
      subst hxy this
      exact n1 hx
  · rw [List.map_append]
    refine List.nodup_append.2 ⟨h.keys, by simp, ?_⟩
    intro x hx y hy hxy
    have : y = e.key := by simpa using hy
    subst hxy this
    exact hk hx
  · intro x hx
    rcases List.mem_append.1 hx with hx | hx
    · exact .inl (List.mem_map_of_mem hx)
    · rw [List.mem_singleton.1 hx]; exact .inr hb

theorem new_facts {w2 : World} {k : Nat} {v x : Int} (h : Rep w2 a D) (hk : k < D.words.length) (hn : k ∉ D.ents.map Ent.key) :
    ∃ w7, (Instr.mapUpdate 49 (.map (some D.mb)) (.int .i64 (k : Int)) (.agg #[.slice (some ⟨w2.heap.size + 1, 0, none⟩) 2 2, .int .i64 0])).run Tryz.prog
        ((w2.alloc (.cells #[.slice (some ⟨w2.heap.size + 1, 0, none⟩) 2 2, .int .i64 0] 202)).alloc (.cells #[.int .u64 v, .int .u64 x] 121)).drew = .ok () w7 ∧
      Res w2 a D w7 { D with ents := D.ents ++ [⟨k, [v, x], 0, w2.heap.size + 1, 0, 2, D.clock⟩], clock := D.clock + 1 } ∧
      w7.cell? ⟨a, 4, none⟩ = some (.slice (some ⟨D.wb, 0, none⟩) D.words.length D.wcap) ∧ w7.cell? ⟨D.wb, k, none⟩ = some (.int .u64 D.words[k]) ∧ w7.frozen? ⟨D.wb, k, none⟩ = false := by
  have hN : ((w2.alloc (.cells #[.slice (some ⟨w2.heap.size + 1, 0, none⟩) 2 2, .int .i64 0] 202)).alloc (.cells #[.int .u64 v, .int .u64 x] 121)).heap[w2.heap.size + 1]? = some (.cells #[.int .u64 v, .int .u64 x] 121 (0, 0)) := by
    have := (heap_alloc (w2.alloc (.cells #[.slice (some ⟨w2.heap.size + 1, 0, none⟩) 2 2, .int .i64 0] 202)) (.cells #[.int .u64 v, .int .u64 x] 121)).1
    rw [World.size_alloc] at this
    exact this
  have hM : ((w2.alloc (.cells #[.slice (some ⟨w2.heap.size + 1, 0, none⟩) 2 2, .int .i64 0] 202)).alloc (.cells #[.int .u64 v, .int .u64 x] 121)).drew.heap[D.mb]? = some (.map (D.ents.map Ent.entry).toArray D.clock) := blk_alloc (blk_alloc h.map _) _
  have hput := run_put_none (e := ⟨k, [v, x], 0, w2.heap.size + 1, 0, 2, D.clock⟩) hM hn rfl
  have hres := fresh_res (w2 := ((w2.alloc (.cells #[.slice (some ⟨w2.heap.size + 1, 0, none⟩) 2 2, .int .i64 0] 202)).alloc (.cells #[.int .u64 v, .int .u64 x] 121)).drew) h ⟨k, [v, x], 0, w2.heap.size + 1, 0, 2, D.clock⟩ hn
    (Off.drew (((Off.refl _ _).alloc _).alloc _)) ⟨_, hN, by simp, by simp, by simp [u64s]⟩ (by show w2.heap.size ≤ w2.heap.size + 1; omega) rfl
  refine ⟨_, hput, hres, hres.rep.c4, ?_, blk_frozen hres.rep.wds _⟩
  exact hres.rep.word k hk

set_option maxHeartbeats 1600000 in
set_option maxRecDepth 100000 in
theorem store_new (h : Rep w a D) (x : Int) (hd : D.down = false) (k : Nat) (hk : k < D.words.length) (hn : k ∉ D.ents.map Ent.key) (hs : D.steps < 4611686018427387904) (hl : D.left < 4611686018427387904) (hst : D.stores < 4611686018427387904) :
    Calls Tryz.prog 95 #[.pointer (some ⟨a, 0, none⟩), .int .i64 (k : Int), .int .u64 x] w fun r w' => r = .returned (.bool true) ∧ ∃ blk off cap born clock,
      Res w a D w' { D.stored with words := D.words.set k x, ents := D.ents ++ [⟨k, [D.words[k], x], 0, blk, off, cap, born⟩], clock := clock } := by
  obtain ⟨i0, hi0, hz0, hz1, hz2⟩ := info_parts u64_info
  have hc := has_any h (k : Int)
  rw [has_yes (by omega) (by omega)] at hc
  have H1 := Lib.hid hc
  have H2 := Lib.hid (step_yes h hd hs hl)
  have H := Lib.hid h
  have HN := Lib.hid hn
  clear hc h hd hs hl hn
  go_enter Tryz.func95, Tryz.ntmps95
  go_wp2_with (first
    | (go_at_call 136; refine H1.out.mono ?_; rintro e w' ⟨rfl, rfl⟩)
    | (go_at_call 137; refine H2.out.mono ?_; rintro r w1 ⟨rfl, hr1, ho1, hz1s⟩
       have c1 : w1.cell? ⟨a, 1, none⟩ = some (.int .i64 (D.stores : Int)) := hr1.c1
       have c4 : w1.cell? ⟨a, 4, none⟩ = some (.slice (some ⟨D.wb, 0, none⟩) D.words.length D.wcap) := hr1.c4
       have c5 : w1.cell? ⟨a, 5, none⟩ = some (.map (some D.mb)) := hr1.c5
       have cw : w1.cell? ⟨D.wb, k, none⟩ = some (.int .u64 D.words[k]) := hr1.word k hk
       have f1 := hr1.frozen 1
       have hlt := hr1.lt
       have hwlt : D.wb < w1.heap.size := lt_of_some hr1.wds
       have hwne : D.wb ≠ a := hr1.ne_wb.symm
       have hr2 := stored_rep hr1
       have hlk := run_look_none (b := D.mb) (l := D.ents) (c := D.clock) hr2.rep.map HN.out true
       simp only [if_true] at hlk
       obtain ⟨w7, hput0, HR7, j40, jw0, jf0⟩ := new_facts (v := D.words[k]) (x := x) hr2.rep hk HN.out
       rw [show (w1.setCell ⟨a, 1, none⟩ (.int .i64 ((D.stores : Int) + 1))).heap.size = w1.heap.size from by simp [World.setCell]] at hput0
       have hput : (Instr.mapUpdate 49 (.map (some D.mb)) (.int .i64 (k : Int)) (.agg #[.slice (some ⟨w1.heap.size + 1, 0, none⟩) 2 2, .int .i64 0])).run Tryz.prog
        (((w1.setCell ⟨a, 1, none⟩ (.int .i64 ((D.stores : Int) + 1))).alloc (.cells #[.slice (some ⟨w1.heap.size + 1, 0, none⟩) 2 2, .int .i64 0] 202)).alloc (.cells #[.int .u64 D.words[k], .int .u64 x] 121)).drew = .ok () w7 := hput0
       have j4 : w7.cell? ⟨a, 4, none⟩ = some (.slice (some ⟨D.wb, 0, none⟩) D.words.length D.wcap) := j40
       have jw : w7.cell? ⟨D.wb, k, none⟩ = some (.int .u64 D.words[k]) := jw0
       have jf : w7.frozen? ⟨D.wb, k, none⟩ = false := jf0
       have HX := Lib.hid HR7
       have HR1 := Lib.hid hr1
       have HR2 := Lib.hid hr2
       have HO1 := Lib.hid ho1
       clear hr1 hr2 ho1 hz1s HR7 hput0 j40 jw0 jf0))
  go_region
  go_wp2
  go_ret
  have hfin := word_res HX.out.rep k hk x
  exact ⟨rfl, _, _, _, _, _, (((step_res HR1.out HO1.out).trans HR2.out).trans HX.out).trans hfin⟩
end
end Pm
end Go.Proofs.YtilolepbfmcbgaaGreatDoor
/- The device without its memory: what its calls do to it, and what always holds of it. -/
namespace Go.Proofs.YtilolepbfmcbgaaGreatDoor
open Go.RowKit Go.MapKept
namespace Pm

abbrev Pend := List (Nat × List Int × Nat)
def pget : Pend → Nat → Option (List Int × Nat)
  | [], _ => none
  | p :: r, k => if p.1 = k then some p.2 else pget r k
def pset : Pend → Nat → List Int × Nat → Pend
  | [], _, _ => []
  | p :: r, k, v => if p.1 = k then (k, v) :: r else p :: pset r k v
def pdel : Pend → Nat → Pend
  | [], _ => []
  | p :: r, k => if p.1 = k then r else p :: pdel r k

structure Abs where
  steps : Nat
  stores : Nat
  armed : Bool
  left : Nat
  words : List Int
  pend : Pend
  marked : List Nat

def Ent.abs (e : Ent) : Nat × List Int × Nat := (e.key, e.vals, e.mark)
def Dev.abs (D : Dev) : Abs := ⟨D.steps, D.stores, D.armed, D.left, D.words, D.ents.map Ent.abs, D.marked⟩

def Abs.down (A : Abs) : Bool := A.armed && A.left == 0
def Abs.step (A : Abs) : Abs := { A with steps := A.steps + 1, left := if A.armed then A.left - 1 else A.left }
def Abs.mark (A : Abs) (k : Nat) : Abs :=
  match pget A.pend k with
  | none => A
  | some (vs, m) => { A with pend := pset A.pend k (vs, vs.length - 1), marked := if m = 0 then A.marked ++ [k] else A.marked }
def Abs.settle (A : Abs) (k : Nat) : Abs :=
  match pget A.pend k with
  | none => A
  | some (vs, m) => if m + 1 = vs.length then { A with pend := pdel A.pend k } else { A with pend := pset A.pend k (vs.drop m, 0) }
def Abs.store (A : Abs) (k : Nat) (x : Int) : Abs :=
  { A.step with stores := A.stores + 1, words := A.words.set k x, pend :=
      match pget A.pend k with
      | none => A.pend ++ [(k, [A.words[k]?.getD 0, x], 0)]
      | some (vs, m) => pset A.pend k (vs ++ [x], m) }

/-! the list of what is pending -/
theorem pget_mid {k : Nat} {v : List Int × Nat} {post : Pend} : ∀ {pre : Pend}, k ∉ pre.map (·.1) → pget (pre ++ (k, v) :: post) k = some v
  | [], _ => by simp [pget]
  | p :: r, h => by
    simp only [List.map_cons, List.mem_cons, not_or] at h
    simp only [List.cons_append, pget, if_neg (Ne.symm h.1)]
    exact pget_mid h.2
theorem pset_mid {k : Nat} {v u : List Int × Nat} {post : Pend} : ∀ {pre : Pend}, k ∉ pre.map (·.1) → pset (pre ++ (k, v) :: post) k u = pre ++ (k, u) :: post
  | [], _ => by simp [pset]
  | p :: r, h => by
    simp only [List.map_cons, List.mem_cons, not_or] at h
    simp only [List.cons_append, pset, if_neg (Ne.symm h.1)]
    rw [pset_mid h.2]
theorem pdel_mid {k : Nat} {v : List Int × Nat} {post : Pend} : ∀ {pre : Pend}, k ∉ pre.map (·.1) → pdel (pre ++ (k, v) :: post) k = pre ++ post
  | [], _ => by simp [pdel]
  | p :: r, h => by
    simp only [List.map_cons, List.mem_cons, not_or] at h
    simp only [List.cons_append, pdel, if_neg (Ne.symm h.1)]
    rw [pdel_mid h.2]
theorem pget_none {k : Nat} : ∀ {l : Pend}, pget l k = none ↔ k ∉ l.map (·.1)
  | [] => by simp [pget]
  | p :: r => by
    simp only [pget, List.map_cons, List.mem_cons, not_or]
    split
    · rename_i h; simp [h]
    · rename_i h; rw [pget_none]; exact ⟨fun h2 => ⟨Ne.symm h, h2⟩, fun h2 => h2.2⟩
theorem pget_some {k : Nat} {v : List Int × Nat} : ∀ {l : Pend}, pget l k = some v → ∃ pre post, l = pre ++ (k, v) :: post ∧ k ∉ pre.map (·.1)
  | [], h => by simp [pget] at h
  | p :: r, h => by
    simp only [pget] at h
    split at h
    · rename_i hk
      injection h with h
      refine ⟨[], r, ?_, by simp⟩
      obtain ⟨p1, p2⟩ := p
      simp at hk h
      subst hk h
      rfl
    · rename_i hk
      obtain ⟨pre, post, e, hn⟩ := pget_some h
      refine ⟨p :: pre, post, by rw [e]; rfl, ?_⟩
      simp only [List.map_cons, List.mem_cons, not_or]
      exact ⟨Ne.symm hk, hn⟩
theorem pget_mem {k : Nat} {v : List Int × Nat} {l : Pend} (h : pget l k = some v) : (k, v) ∈ l := by
  obtain ⟨pre, post, rfl, _⟩ := pget_some h
  simp
theorem pset_keys {k : Nat} {u v : List Int × Nat} {l : Pend} (h : pget l k = some v) : (pset l k u).map (·.1) = l.map (·.1) := by
  obtain ⟨pre, post, rfl, hn⟩ := pget_some h
  rw [pset_mid hn]; simp
theorem pget_of_mem {p : Nat × List Int × Nat} {l : Pend} (hk : (l.map (·.1)).Nodup) (h : p ∈ l) : pget l p.1 = some p.2 := by
  obtain ⟨pre, post, rfl⟩ := List.append_of_mem h
  rw [List.map_append, List.map_cons] at hk
  exact pget_mid (nodup_mid hk).1

theorem nodup_lt : ∀ (n : Nat) (l : List Nat), l.Nodup → (∀ x ∈ l, x < n) → l.length ≤ n
  | 0, l, _, h => by
    cases l with
    | nil => simp
    | cons x r => exact absurd (h x (.head _)) (by omega)
  | n + 1, l, hn, h => by
    have ih := nodup_lt n (l.erase n) (hn.erase n) (fun x hx => by
      have hx := (List.Nodup.mem_erase_iff hn).1 hx
      have := h x hx.2
      have := hx.1
      omega)
    rw [List.length_erase] at ih
    split at ih <;> omega

/-- what always holds of a device, M being the marked words that aren't settled yet -/
structure Abs.OkM (A : Abs) (M : List Nat) : Prop where
  keys : (A.pend.map (·.1)).Nodup
  ent : ∀ p ∈ A.pend, p.1 < A.words.length ∧ 2 ≤ p.2.1.length ∧ p.2.2 < p.2.1.length ∧ p.2.1.length ≤ A.stores + 1
  mk0 : M.Nodup
  mk1 : ∀ k ∈ M, ∃ v, pget A.pend k = some v ∧ 0 < v.2
  mk2 : ∀ p ∈ A.pend, 0 < p.2.2 → p.1 ∈ M
  size : A.words.length ≤ 4194304
  cnt : A.stores ≤ A.steps
  few : A.steps < 100000000000
  fuse : A.left < 4611686018427387904
/-- what always holds of a device -/
def Abs.Ok (A : Abs) : Prop := A.OkM A.marked

theorem Abs.OkM.marked_le {A : Abs} {M : List Nat} (h : A.OkM M) : M.length ≤ 4194304 := by
  refine Nat.le_trans (nodup_lt A.words.length M h.mk0 (fun k hk => ?_)) h.size
  obtain ⟨v, hv, _⟩ := h.mk1 k hk
  exact (h.ent _ (pget_mem hv)).1

theorem pget_pset_ne {k k' : Nat} {u : List Int × Nat} (hne : k ≠ k') : ∀ l : Pend, pget (pset l k u) k' = pget l k'
  | [] => rfl
  | p :: r => by
    simp only [pset]
    split
    · rename_i h
      simp only [pget]
      rw [if_neg hne, if_neg (by rw [h]; exact hne)]
    · simp only [pget]
      rw [pget_pset_ne hne r]
theorem pget_pdel_ne {k k' : Nat} (hne : k ≠ k') : ∀ l : Pend, pget (pdel l k) k' = pget l k'
  | [] => rfl
  | p :: r => by
    simp only [pdel]
    split
    · rename_i h
      simp only [pget]
      rw [if_neg (by rw [h]; exact hne)]
    · simp only [pget]
      rw [pget_pdel_ne hne r]
theorem pget_append_ne {k k' : Nat} {v : List Int × Nat} (hne : k ≠ k') : ∀ l : Pend, pget (l ++ [(k, v)]) k' = pget l k'
  | [] => by simp [pget, hne]
  | p :: r => by
    simp only [List.cons_append, pget]
    rw [pget_append_ne hne r]
theorem pget_pset {k : Nat} {u v : List Int × Nat} {l : Pend} (h : pget l k = some v) : pget (pset l k u) k = some u := by
  obtain ⟨pre, post, rfl, hn⟩ := pget_some h
  rw [pset_mid hn, pget_mid hn]
theorem mem_pset {k : Nat} {u v : List Int × Nat} {l : Pend} {p : Nat × List Int × Nat} (h : pget l k = some v) (hk : (l.map (·.1)).Nodup) (hp : p ∈ pset l k u) : p = (k, u) ∨ (p ∈ l ∧ p.1 ≠ k) := by
  obtain ⟨pre, post, rfl, hn⟩ := pget_some h
  rw [pset_mid hn] at hp
  rw [List.map_append, List.map_cons] at hk
  have hm : k ∉ pre.map (·.1) ∧ k ∉ post.map (·.1) := nodup_mid hk
  simp only [List.mem_append, List.mem_cons] at hp ⊢
  rcases hp with hp | hp | hp
  · exact .inr ⟨.inl hp, fun e => hm.1 (List.mem_map.2 ⟨p, hp, e⟩)⟩
  · exact .inl hp
  · exact .inr ⟨.inr (.inr hp), fun e => hm.2 (List.mem_map.2 ⟨p, hp, e⟩)⟩
theorem mem_pdel {k : Nat} {v : List Int × Nat} {l : Pend} {p : Nat × List Int × Nat} (h : pget l k = some v) (hk : (l.map (·.1)).Nodup) (hp : p ∈ pdel l k) : p ∈ l ∧ p.1 ≠ k := by
  obtain ⟨pre, post, rfl, hn⟩ := pget_some h
  rw [pdel_mid hn] at hp
  rw [List.map_append, List.map_cons] at hk
  have hm : k ∉ pre.map (·.1) ∧ k ∉ post.map (·.1) := nodup_mid hk
  simp only [List.mem_append, List.mem_cons] at hp ⊢
  rcases hp with hp | hp
  · exact ⟨.inl hp, fun e => hm.1 (List.mem_map.2 ⟨p, hp, e⟩)⟩
  · exact ⟨.inr (.inr hp), fun e => hm.2 (List.mem_map.2 ⟨p, hp, e⟩)⟩
theorem pdel_keys {k : Nat} {v : List Int × Nat} {l : Pend} (h : pget l k = some v) (hk : (l.map (·.1)).Nodup) : ((pdel l k).map (·.1)).Nodup := by
  obtain ⟨pre, post, rfl, hn⟩ := pget_some h
  rw [pdel_mid hn]
  refine List.Nodup.sublist (List.Sublist.map _ ?_) hk
  exact List.Sublist.append (List.Sublist.refl _) (List.sublist_cons_self _ _)

theorem step_ok {A : Abs} {M : List Nat} (h : A.OkM M) (hs : A.steps + 1 < 100000000000) : A.step.OkM M := {
  keys := h.keys
  ent := h.ent
  mk0 := h.mk0
  mk1 := h.mk1
  mk2 := h.mk2
  size := h.size
  cnt := Nat.le_succ_of_le h.cnt
  few := hs
  fuse := by
    have := h.fuse
    simp only [Abs.step]
    split <;> omega }

theorem mark_ok {A : Abs} (h : A.Ok) (k : Nat) : (A.mark k).Ok := by
  unfold Abs.Ok Abs.mark
  cases hg : pget A.pend k with
  | none => exact h
  | some v =>
    obtain ⟨vs, m⟩ := v
    have he := h.ent _ (pget_mem hg)
    refine ⟨?_, ?_, ?_, ?_, ?_, h.size, h.cnt, h.few, h.fuse⟩
    · simp only [pset_keys hg]; exact h.keys
    · intro p hp
      rcases mem_pset hg h.keys hp with rfl | ⟨hp, _⟩
      · simp only at he ⊢
        omega
      · exact h.ent p hp
    · by_cases hm : m = 0
      · simp only [hm, if_true]
        refine List.nodup_append.2 ⟨h.mk0, by simp, ?_⟩
        intro x hx y hy hxy
        have : y = k := by simpa using hy
        subst this hxy
        obtain ⟨v, hv, h0⟩ := h.mk1 _ hx
        rw [hg] at hv
        injection hv with hv
        subst hv
        simp only at h0
        omega
      · simp only [hm, if_false]; exact h.mk0
    · intro x hx
      by_cases hxk : k = x
      · subst hxk
        exact ⟨_, pget_pset hg, by simp only at he ⊢; omega⟩
      · have hx : x ∈ A.marked := by
          by_cases hm : m = 0
          · simp only [hm, if_true, List.mem_append, List.mem_singleton] at hx
            exact hx.resolve_right (Ne.symm hxk)
          · simpa only [hm, if_false] using hx
        obtain ⟨v, hv, h0⟩ := h.mk1 x hx
        exact ⟨v, by rw [pget_pset_ne hxk]; exact hv, h0⟩
    · intro p hp h0
      rcases mem_pset hg h.keys hp with rfl | ⟨hp, _⟩
      · by_cases hm : m = 0
        · simp [hm]
        · simp only [hm, if_false]
          exact h.mk2 _ (pget_mem hg) (by simp only; omega)
      · have := h.mk2 p hp h0
        by_cases hm : m = 0
        · simp [hm, this]
        · simpa only [hm, if_false] using this

theorem settle_ok {A : Abs} {k : Nat} {M : List Nat} (h : A.OkM (k :: M)) : (A.settle k).OkM M := by
  obtain ⟨v, hg, h0⟩ := h.mk1 k (.head _)
  obtain ⟨vs, m⟩ := v
  have he := h.ent _ (pget_mem hg)
  have hnk := List.nodup_cons.1 h.mk0
  simp only at he h0
  unfold Abs.settle
  simp only [hg]
  by_cases hm : m + 1 = vs.length
  · simp only [hm, if_true]
    refine ⟨pdel_keys hg h.keys, ?_, hnk.2, ?_, ?_, h.size, h.cnt, h.few, h.fuse⟩
    · intro p hp
      exact h.ent p (mem_pdel hg h.keys hp).1
    · intro x hx
      obtain ⟨v, hv, h1⟩ := h.mk1 x (.tail _ hx)
      refine ⟨v, ?_, h1⟩
      rw [pget_pdel_ne (fun e => hnk.1 (by rw [e]; exact hx))]
      exact hv
    · intro p hp hp0
      have hp := mem_pdel hg h.keys hp
      exact (List.mem_cons.1 (h.mk2 p hp.1 hp0)).resolve_left hp.2
  · simp only [hm, if_false]
    refine ⟨?_, ?_, hnk.2, ?_, ?_, h.size, h.cnt, h.few, h.fuse⟩
    · simp only [pset_keys hg]; exact h.keys
    · intro p hp
      rcases mem_pset hg h.keys hp with rfl | ⟨hp, _⟩
      · simp only [List.length_drop]
        omega
      · exact h.ent p hp
    · intro x hx
      obtain ⟨v, hv, h1⟩ := h.mk1 x (.tail _ hx)
      refine ⟨v, ?_, h1⟩
      rw [pget_pset_ne (fun e => hnk.1 (by rw [e]; exact hx))]
      exact hv
    · intro p hp hp0
      rcases mem_pset hg h.keys hp with rfl | ⟨hp, hne⟩
      · simp at hp0
      · exact (List.mem_cons.1 (h.mk2 p hp hp0)).resolve_left hne

theorem store_ok {A : Abs} (h : A.Ok) {k : Nat} (hk : k < A.words.length) (x : Int) (hs : A.steps + 1 < 100000000000) : (A.store k x).Ok := by
  have hc := h.cnt
  have hf := (step_ok h hs).fuse
  unfold Abs.Ok Abs.store
  cases hg : pget A.pend k with
  | none =>
    have hn := pget_none.1 hg
    refine ⟨?_, ?_, h.mk0, ?_, ?_, by simpa [Abs.step] using h.size, Nat.succ_le_succ h.cnt, hs, hf⟩
    · simp only [List.map_append]
      refine List.nodup_append.2 ⟨h.keys, by simp, ?_⟩
      intro a ha b hb hab
      have : b = k := by simpa using hb
      subst this hab
      exact hn ha
    · intro p hp
      rcases List.mem_append.1 hp with hp | hp
      · have := h.ent p hp
        simp only [List.length_set]
        omega
      · rw [List.mem_singleton.1 hp]
        simp only [List.length_set, List.length_cons, List.length_nil]
        omega
    · intro y hy
      obtain ⟨v, hv, h0⟩ := h.mk1 y hy
      refine ⟨v, ?_, h0⟩
      rw [pget_append_ne (fun e => by subst e; rw [hg] at hv; cases hv)]
      exact hv
    · intro p hp hp0
      rcases List.mem_append.1 hp with hp | hp
      · exact h.mk2 p hp hp0
      · rw [List.mem_singleton.1 hp] at hp0
        simp at hp0
  | some v =>
    obtain ⟨vs, m⟩ := v
    have he := h.ent _ (pget_mem hg)
    refine ⟨?_, ?_, h.mk0, ?_, ?_, by simpa [Abs.step] using h.size, Nat.succ_le_succ h.cnt, hs, hf⟩
    · simp only [pset_keys hg]; exact h.keys
    · intro p hp
      rcases mem_pset hg h.keys hp with rfl | ⟨hp, _⟩
      · simp only [List.length_set, List.length_append, List.length_singleton] at he ⊢
        omega
      · have := h.ent p hp
        simp only [List.length_set]
        omega
    · intro y hy
      obtain ⟨v, hv, h0⟩ := h.mk1 y hy
      by_cases hyk : k = y
      · subst hyk
        rw [hg] at hv
        injection hv with hv
        subst hv
        exact ⟨_, pget_pset hg, h0⟩
      · exact ⟨v, by rw [pget_pset_ne hyk]; exact hv, h0⟩
    · intro p hp hp0
      rcases mem_pset hg h.keys hp with rfl | ⟨hp, _⟩
      · exact h.mk2 (k, vs, m) (pget_mem hg) hp0
      · exact h.mk2 p hp hp0

/-- from the list without memory to the entries -/
theorem ents_of_get {D : Dev} {k : Nat} {v : List Int × Nat} (h : pget D.abs.pend k = some v) : ∃ pre post e, D.ents = pre ++ e :: post ∧ e.key = k ∧ e.vals = v.1 ∧ e.mark = v.2 ∧ k ∉ (pre.map Ent.abs).map (·.1) := by
  obtain ⟨p, q, hpq, hn⟩ := pget_some h
  have hpq : D.ents.map Ent.abs = p ++ (k, v) :: q := hpq
  obtain ⟨l1, l2, e1, rfl, e2⟩ := List.map_eq_append_iff.1 hpq
  obtain ⟨e, l3, rfl, e3, e4⟩ := List.map_eq_cons_iff.1 e2
  subst e4
  refine ⟨l1, l3, e, e1, ?_, ?_, ?_, hn⟩
  · exact congrArg (·.1) e3
  · exact congrArg (·.2.1) e3
  · exact congrArg (·.2.2) e3
theorem keys_abs (D : Dev) : D.abs.pend.map (·.1) = D.ents.map Ent.key := by simp [Dev.abs, Ent.abs]

section
variable {w : World} {a : Nat} {D : Dev}
theorem mark_any (h : Rep w a D) (ok : D.abs.Ok) (k : Nat) : Calls Tryz.prog 139 #[.pointer (some ⟨a, 0, none⟩), .int .i64 (k : Int)] w fun r w' =>
    r = .returned (.tuple #[]) ∧ ∃ D', Res w a D w' D' ∧ D'.abs = D.abs.mark k ∧ D'.wb = D.wb := by
  cases hg : pget D.abs.pend k with
  | none =>
    have hn : k ∉ D.ents.map Ent.key := by rw [← keys_abs]; exact pget_none.1 hg
    refine (mark_no h k hn).mono fun r w' ⟨hr, hres⟩ => ⟨hr, D, hres, ?_, rfl⟩
    simp [Abs.mark, hg]
  | some v =>
    obtain ⟨pre, post, e, he, rfl, hv, hm, hn⟩ := ents_of_get hg
    have hent := ok.ent _ (pget_mem hg)
    have hfew := ok.few
    have hcnt := ok.cnt
    simp only [← hv, ← hm] at hent
    have hst : D.abs.stores ≤ D.abs.steps := hcnt
    have hb : e.vals.length < 1000000000000 := by omega
    have hpend : D.abs.pend = pre.map Ent.abs ++ (e.key, e.vals, e.mark) :: post.map Ent.abs := by
      show D.ents.map Ent.abs = _
      rw [he]; simp [Ent.abs]
    obtain ⟨v1, v2⟩ := v
    simp only at hv hm
    subst hv hm
    rcases Nat.eq_zero_or_pos e.mark with hz | hz
    · have hml := ok.marked_le
      have hml : D.marked.length ≤ 4194304 := hml
      refine (mark_first h pre post e he hz (by omega) (by omega) hb).mono fun r w' ⟨hr, mka, mkc, hres⟩ => ⟨hr, _, hres, ?_, rfl⟩
      simp only [Abs.mark, hg, hz, if_true]
      rw [hpend, pset_mid hn]
      simp [Dev.abs, Ent.abs]
    · refine (mark_again h pre post e he hz (by omega) hb).mono fun r w' ⟨hr, hres⟩ => ⟨hr, _, hres, ?_, rfl⟩
      simp only [Abs.mark, hg]
      rw [hpend, pset_mid hn, if_neg (by omega)]
      simp [Dev.abs, Ent.abs]

theorem settle_any {M : List Nat} (h : Rep w a D) (k : Nat) (ok : D.abs.OkM (k :: M)) : Calls Tryz.prog 182 #[.pointer (some ⟨a, 0, none⟩), .int .i64 (k : Int)] w fun r w' =>
    r = .returned (.tuple #[]) ∧ ∃ D', Res w a D w' D' ∧ D'.abs = D.abs.settle k ∧ D'.mka = D.mka ∧ D'.mkc = D.mkc ∧ D'.marked = D.marked := by
  cases hg : pget D.abs.pend k with
  | none =>
    obtain ⟨v, hv, _⟩ := ok.mk1 k (.head _)
    rw [hg] at hv
    cases hv
  | some v =>
    obtain ⟨pre, post, e, he, rfl, hv, hm, hn⟩ := ents_of_get hg
    have hent := ok.ent _ (pget_mem hg)
    simp only [← hv, ← hm] at hent
    have hpend : D.abs.pend = pre.map Ent.abs ++ (e.key, e.vals, e.mark) :: post.map Ent.abs := by
      show D.ents.map Ent.abs = _
      rw [he]; simp [Ent.abs]
    obtain ⟨v1, v2⟩ := v
    simp only at hv hm
    subst hv hm
    obtain ⟨cs, _, _, hcap, _⟩ := h.ent e (by rw [he]; simp)
    by_cases hz : e.mark + 1 = e.vals.length
    · refine (settle_one h pre post e he hz hcap).mono fun r w' ⟨hr, hres⟩ => ⟨hr, _, hres, ?_, rfl, rfl, rfl⟩
      simp only [Abs.settle, hg, hz, if_true]
      rw [hpend, pdel_mid hn]
      simp [Dev.abs]
    · refine (settle_more h pre post e he (by omega) hcap).mono fun r w' ⟨hr, hres⟩ => ⟨hr, _, hres, ?_, rfl, rfl, rfl⟩
      simp only [Abs.settle, hg, hz, if_false]
      rw [hpend, pset_mid hn]
      simp [Dev.abs, Ent.abs]

theorem store_any (h : Rep w a D) (ok : D.abs.Ok) (hd : D.abs.down = false) (k : Nat) (x : Int) (hk : k < D.abs.words.length) :
    Calls Tryz.prog 95 #[.pointer (some ⟨a, 0, none⟩), .int .i64 (k : Int), .int .u64 x] w fun r w' => r = .returned (.bool true) ∧ ∃ D', Res w a D w' D' ∧ D'.abs = D.abs.store k x := by
  have hd : D.down = false := hd
  have h1 : D.steps < 4611686018427387904 := Nat.lt_trans (m := 100000000000) ok.few (by omega)
  have h2 : D.stores < 4611686018427387904 := Nat.lt_of_le_of_lt ok.cnt h1
  have hk : k < D.words.length := hk
  cases hg : pget D.abs.pend k with
  | none =>
    have hn : k ∉ D.ents.map Ent.key := by rw [← keys_abs]; exact pget_none.1 hg
    refine (store_new h x hd k hk hn h1 ok.fuse h2).mono fun r w' ⟨hr, _, _, _, _, _, hres⟩ => ⟨hr, _, hres, ?_⟩
    simp only [Abs.store, hg]
    simp [Dev.abs, Dev.stored, Dev.stepped, Abs.step, Ent.abs, List.getElem?_eq_getElem hk]
    rfl
  | some v =>
    obtain ⟨pre, post, e, he, rfl, hv, hm, hn⟩ := ents_of_get hg
    have hent := ok.ent _ (pget_mem hg)
    have hfew := ok.few
    have hcnt := ok.cnt
    simp only [← hv, ← hm] at hent
    have hb : e.vals.length < 1000000000000 := by omega
    have hpend : D.abs.pend = pre.map Ent.abs ++ (e.key, e.vals, e.mark) :: post.map Ent.abs := by
      show D.ents.map Ent.abs = _
      rw [he]; simp [Ent.abs]
    obtain ⟨v1, v2⟩ := v
    simp only at hv hm
    subst hv hm
    refine (store_old h x hd pre post e he hk h1 ok.fuse h2 hb).mono fun r w' ⟨hr, _, _, _, hres⟩ => ⟨hr, _, hres, ?_⟩
    simp only [Abs.store, hg]
    rw [hpend, pset_mid hn]
    simp [Dev.abs, Dev.stored, Dev.stepped, Abs.step, Ent.abs]
    rfl
end
end Pm
end Go.Proofs.YtilolepbfmcbgaaGreatDoor
