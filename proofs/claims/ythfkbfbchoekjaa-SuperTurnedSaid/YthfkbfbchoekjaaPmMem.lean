/- The device of package pm as it lies in memory: its cells, its words, the map of pending words, the histories' rows, the marked words. Plain definitions and what the map's operations do. -/
import Derived.Test.YthfkbfbchoekjaaRows
import Derived.WalkKit
import Derived.ProofKit
import Derived.Maps.AppendAt
import Derived.MapKept
import Derived.Lib.Hide
import Derived.Deep.Draws
namespace Go.Proofs.Ythfkbfbchoekjaa
open Go.RowKit Go.MapKept
namespace Pm

/-- a pending word: its number, its values (the lasting one first), the mark; and where its values lie. -/
structure Ent where
  key : Nat
  vals : List Int
  mark : Nat
  blk : Nat
  off : Nat
  cap : Nat
  born : Nat

def u64s (l : List Int) : List Value := l.map (Value.int .u64)
def i64s (l : List Nat) : List Value := l.map (fun k : Nat => Value.int .i64 (k : Int))
def Ent.val (e : Ent) : Value := .agg #[.slice (some ⟨e.blk, e.off, none⟩) e.vals.length e.cap, .int .i64 (e.mark : Int)]
def Ent.entry (e : Ent) : MapEntry := ⟨.int .i64 (e.key : Int), e.val, e.born⟩

/-- a device: what it is, and where it lies. -/
structure Dev where
  steps : Nat
  stores : Nat
  armed : Bool
  left : Nat
  words : List Int
  ents : List Ent
  marked : List Nat
  wb : Nat
  mb : Nat
  clock : Nat
  mka : Option Addr
  mkc : Nat

def Dev.mkv (D : Dev) : Value := .slice D.mka D.marked.length D.mkc

def Dev.cells (D : Dev) : Array Value :=
  #[.int .i64 (D.steps : Int), .int .i64 (D.stores : Int), .bool D.armed, .int .i64 (D.left : Int), .slice (some ⟨D.wb, 0, none⟩) D.words.length D.words.length, .map (some D.mb), .slice D.mka D.marked.length D.mkc]

def Ent.lies (w : World) (e : Ent) : Prop :=
  ∃ cs : Array Value, w.heap[e.blk]? = some (.cells cs 39 (0, 0)) ∧ e.off + e.cap = cs.size ∧ e.vals.length ≤ e.cap ∧ (cs.toList.drop e.off).take e.vals.length = u64s e.vals

/-- the entries' stamps, as the map keeps them -/
def Stamp (l : List Ent) (c : Nat) : Prop := (∀ e ∈ l, e.born < c) ∧ (l.map Ent.born).Nodup

structure Rep (w : World) (a : Nat) (D : Dev) : Prop where
  dev : w.heap[a]? = some (.cells D.cells 70 (0, 0))
  wds : w.heap[D.wb]? = some (.cells (u64s D.words).toArray 39 (0, 0))
  map : w.heap[D.mb]? = some (.map (D.ents.map Ent.entry).toArray D.clock)
  ent : ∀ e ∈ D.ents, e.lies w
  mrk : w.ownsRow 0 3 1 D.mkv D.marked.length (i64s D.marked)
  nodup : (D.wb :: D.ents.map Ent.blk).Nodup
  keys : (D.ents.map Ent.key).Nodup
  stamp : Stamp D.ents D.clock

/-- the device's own blocks. -/
def Foot (a : Nat) (D : Dev) (k : Nat) : Prop := k = a ∨ k = D.wb ∨ k = D.mb ∨ k ∈ D.ents.map Ent.blk ∨ D.mkv.ownBlock = some k

/-- but for the blocks of S, all that was there is as it was. -/
structure Off (S : Nat → Prop) (w w' : World) : Prop where
  os : w'.os = w.os
  tape : w'.tape = w.tape
  output : w'.output = w.output
  size : w.heap.size ≤ w'.heap.size
  block : ∀ k, k < w.heap.size → ¬ S k → w'.heap[k]? = w.heap[k]?

section
variable {S S' : Nat → Prop} {w w' w'' : World}
theorem Off.refl (S : Nat → Prop) (w : World) : Off S w w := ⟨rfl, rfl, rfl, Nat.le_refl _, fun _ _ _ => rfl⟩
theorem Off.trans (h : Off S w w') (k : Off S' w' w'') (hs : ∀ b, b < w.heap.size → S' b → S b) : Off S w w'' :=
  ⟨k.os.trans h.os, k.tape.trans h.tape, k.output.trans h.output, Nat.le_trans h.size k.size,
    fun b hb hn => (k.block b (Nat.lt_of_lt_of_le hb h.size) (fun hx => hn (hs b hb hx))).trans (h.block b hb hn)⟩
theorem Off.drew (h : Off S w w') : Off S w w'.drew := ⟨h.os, h.tape, h.output, h.size, h.block⟩
theorem Off.drewN (h : Off S w w') (n : Nat) : Off S w (w'.drewN n) := ⟨h.os, h.tape, h.output, h.size, h.block⟩
theorem Off.alloc (h : Off S w w') (o : Obj) : Off S w (w'.alloc o) :=
  ⟨h.os, h.tape, h.output, Nat.le_trans h.size (by simp), fun b hb hn => (Below.heap_alloc w' o b (Nat.lt_of_lt_of_le hb h.size)).trans (h.block b hb hn)⟩
theorem Off.setCell (h : Off S w w') {p : Addr} (hp : p.block < w.heap.size → S p.block) (u : Value) : Off S w (w'.setCell p u) :=
  ⟨h.os, h.tape, h.output, Nat.le_trans h.size (by simp [World.setCell]), fun b hb hn => (Below.heap_setCell w' p u b (fun e => hn (by subst e; exact hp hb))).trans (h.block b hb hn)⟩
theorem Off.grown (h : Off S w w') {row : Option Nat} (hg : w'.grownBy w'' row) (hr : ∀ k, row = some k → k < w.heap.size → S k) : Off S w w'' :=
  ⟨hg.os.trans h.os, hg.tape.trans h.tape, hg.output.trans h.output, Nat.le_trans h.size hg.size,
    fun b hb hn => (hg.block b (Nat.lt_of_lt_of_le hb h.size) (fun e => hn (hr b e.symm hb))).trans (h.block b hb hn)⟩
theorem Off.mono (h : Off S w w') (hs : ∀ b, b < w.heap.size → S b → S' b) : Off S' w w' :=
  ⟨h.os, h.tape, h.output, h.size, fun b hb hn => h.block b hb (fun hx => hn (hs b hb hx))⟩
theorem Off.below {B : Nat} (h : Off S w w') (hB : B ≤ w.heap.size) (hs : ∀ b, S b → B ≤ b) : Below B w w' :=
  ⟨h.os, h.tape, h.output, h.size, fun b hb => h.block b (by omega) (fun hx => by have := hs b hx; omega)⟩
end

/-- what a call leaves: the device as D', all else as it was -/
structure Res (w : World) (a : Nat) (D : Dev) (w' : World) (D' : Dev) : Prop where
  rep : Rep w' a D'
  off : Off (Foot a D) w w'
  foot : ∀ k, Foot a D' k → Foot a D k ∨ w.heap.size ≤ k
theorem Res.refl {w : World} {a : Nat} {D : Dev} (h : Rep w a D) : Res w a D w D := ⟨h, Off.refl _ _, fun _ h => .inl h⟩
theorem Res.trans {w w1 w2 : World} {a : Nat} {D D1 D2 : Dev} (h : Res w a D w1 D1) (k : Res w1 a D1 w2 D2) : Res w a D w2 D2 :=
  ⟨k.rep, h.off.trans k.off (fun b hb hf => (h.foot b hf).resolve_right (by omega)), fun b hb => by
    rcases k.foot b hb with h1 | h1
    · exact h.foot b h1
    · exact .inr (Nat.le_trans h.off.size h1)⟩

/-! The map's operations. -/
section
variable {w : World} {b c : Nat}
theorem under_map : Try.prog.underlying 67 = some (.map 3 72) := Try.underlying67
theorem zero_hist (w : World) : (zeroValue 72).run Try.prog w = .ok (.agg #[.slice none 0 0, .int .i64 0]) w := by kernel_rfl

theorem find_none (k : Nat) : ∀ (l : List Ent) (i : Nat), k ∉ l.map Ent.key → Instr.findNow (.int .i64) (.int .i64 (k : Int)) (l.map Ent.entry) i = some none
  | [], _, _ => rfl
  | e :: r, i, h => by
    simp only [List.map_cons, List.mem_cons, not_or] at h
    have hne : ((k : Int) == (e.key : Int)) = false := by simp; omega
    simp only [List.map_cons, Instr.findNow, Ent.entry, Instr.sameNow, if_true, hne]
    exact find_none k r (i + 1) h.2
theorem find_some (e : Ent) (post : List Ent) : ∀ (pre : List Ent) (i : Nat), e.key ∉ pre.map Ent.key →
    Instr.findNow (.int .i64) (.int .i64 (e.key : Int)) ((pre ++ e :: post).map Ent.entry) i = some (some (i + pre.length, e.val))
  | [], i, _ => by simp [Instr.findNow, Ent.entry, Instr.sameNow]
  | f :: r, i, h => by
    simp only [List.map_cons, List.mem_cons, not_or] at h
    have hne : ((e.key : Int) == (f.key : Int)) = false := by simp; omega
    have ih := find_some e post r (i + 1) h.2
    simp only [List.map_append, List.map_cons] at ih
    simp only [List.cons_append, List.map_append, List.map_cons, Instr.findNow, Ent.entry, Instr.sameNow, if_true, hne]
    simp only [Ent.entry] at ih
    rw [ih]
    simp; omega

theorem isKey (k : Int) : IsKey (.int .i64) (.int .i64 k) := by simp [IsKey]

theorem run_look_none {l : List Ent} {k : Nat} (hb : w.heap[b]? = some (.map (l.map Ent.entry).toArray c)) (hk : k ∉ l.map Ent.key) (ok : Bool) :
    (Instr.lookup 67 (.map (some b)) (.int .i64 (k : Int)) ok).run Try.prog w = .ok (if ok then .tuple #[.agg #[.slice none 0 0, .int .i64 0], .bool false] else .agg #[.slice none 0 0, .int .i64 0]) w := by
  have hf := find_none k l 0 hk
  simp [Instr.lookup, run_underlying under_map, MapKept.run_getObj_map hb, run_checkKey Try.underlying3 (isKey _), run_findKey Try.underlying3 hf, Result.andThen]
theorem run_look_some {pre post : List Ent} {e : Ent} (hb : w.heap[b]? = some (.map ((pre ++ e :: post).map Ent.entry).toArray c)) (hk : e.key ∉ pre.map Ent.key) (ok : Bool) :
    (Instr.lookup 67 (.map (some b)) (.int .i64 (e.key : Int)) ok).run Try.prog w = .ok (if ok then .tuple #[e.val, .bool true] else e.val) w := by
  have hf := find_some e post pre 0 hk
  simp only [Instr.lookup, Sem.run_bind, run_underlying under_map, Result.andThen, MapKept.run_getObj_map hb, Sem.run_pure, run_checkKey Try.underlying3 (isKey _), run_findKey Try.underlying3 hf]

def putMap (w : World) (b : Nat) (l : List Ent) (c : Nat) : World := { w with heap := w.heap.setIfInBounds b (.map (l.map Ent.entry).toArray c) }

theorem putMap_at {l : List Ent} (hb : b < w.heap.size) : (putMap w b l c).heap[b]? = some (.map (l.map Ent.entry).toArray c) := by simp [putMap, hb]
theorem putMap_ne {l : List Ent} {k : Nat} (hk : k ≠ b) : (putMap w b l c).heap[k]? = w.heap[k]? := by simp [putMap, Ne.symm hk]
theorem putMap_size {l : List Ent} : (putMap w b l c).heap.size = w.heap.size := by simp [putMap]
theorem Off.putMap {S : Nat → Prop} {w0 : World} {l : List Ent} (h : Off S w0 w) (hp : b < w0.heap.size → S b) : Off S w0 (putMap w b l c) :=
  ⟨h.os, h.tape, h.output, Nat.le_trans h.size (by rw [putMap_size]; exact Nat.le_refl _), fun k hk hn => (putMap_ne (fun e => hn (by subst e; exact hp hk))).trans (h.block k hk hn)⟩

theorem run_put_none {l : List Ent} {e : Ent} (hb : w.heap[b]? = some (.map (l.map Ent.entry).toArray c)) (hk : e.key ∉ l.map Ent.key) (hc : e.born = c) :
    (Instr.mapUpdate 67 (.map (some b)) (.int .i64 (e.key : Int)) e.val).run Try.prog w = .ok () (putMap w b (l ++ [e]) (c + 1)) := by
  have hf := find_none e.key l 0 hk
  simp only [Instr.mapUpdate, Sem.run_bind, run_underlying under_map, Result.andThen, MapKept.run_getObj_map hb, run_checkKey Try.underlying3 (isKey _), run_findKey Try.underlying3 hf, run_setObj_map _ hb]
  subst hc
  simp [putMap, Ent.entry]
theorem run_stays (k : Int) (w : World) : (Instr.keyThatStays (.int .i64 k) (.int .i64 k)).run Try.prog w = .ok (.int .i64 k) w := by
  simp [Instr.keyThatStays, Instr.sameBits]
theorem at_pre {α : Type} (pre post : List α) (e : α) : (pre ++ e :: post)[pre.length]? = some e := by simp
theorem modify_pre {α : Type} (f : α → α) (post : List α) (e : α) : ∀ pre : List α, (pre ++ e :: post).modify pre.length f = pre ++ f e :: post
  | [] => rfl
  | x :: r => by simp [modify_pre f post e r]
theorem erase_pre {α : Type} (post : List α) (e : α) : ∀ pre : List α, (pre ++ e :: post).eraseIdx pre.length = pre ++ post
  | [] => rfl
  | x :: r => by simp [erase_pre post e r]
theorem run_put_some {pre post : List Ent} {e e' : Ent} (hb : w.heap[b]? = some (.map ((pre ++ e :: post).map Ent.entry).toArray c)) (hk : e.key ∉ pre.map Ent.key) (he : e'.key = e.key) (hn : e'.born = e.born) :
    (Instr.mapUpdate 67 (.map (some b)) (.int .i64 (e.key : Int)) e'.val).run Try.prog w = .ok () (putMap w b (pre ++ e' :: post) c) := by
  have hf := find_some e post pre 0 hk
  have hat : ((pre ++ e :: post).map Ent.entry)[pre.length]? = some e.entry := by simp
  simp only [Instr.mapUpdate, Sem.run_bind, run_underlying under_map, Result.andThen, MapKept.run_getObj_map hb, run_checkKey Try.underlying3 (isKey _), run_findKey Try.underlying3 hf, Nat.zero_add, List.getElem?_toArray, hat, Option.map_some, Option.getD_some, Ent.entry, run_stays]
  have hm : (((pre ++ e :: post).map Ent.entry).toArray.modify pre.length fun x => { x with key := .int .i64 (e.key : Int), val := e'.val }) = ((pre ++ e' :: post).map Ent.entry).toArray := by
    apply Array.toList_inj.1
    simp only [Array.toList_modify, List.map_append, List.map_cons]
    have := modify_pre (fun x : MapEntry => { x with key := Value.int .i64 (e.key : Int), val := e'.val }) (post.map Ent.entry) e.entry (pre.map Ent.entry)
    rw [List.length_map] at this
    rw [this]
    simp [Ent.entry, he, hn]
  rw [hm, run_setObj_map _ hb]
  rfl
theorem run_del_some {pre post : List Ent} {e : Ent} (ty : TypeId) (hb : w.heap[b]? = some (.map ((pre ++ e :: post).map Ent.entry).toArray c)) (hk : e.key ∉ pre.map Ent.key) :
    (Builtin.delete_ #[67, 3] ty #[.map (some b), .int .i64 (e.key : Int)]).run Try.prog w = .ok (.tuple #[]) (putMap w b (pre ++ post) c) := by
  have hf := find_some e post pre 0 hk
  have hm : ((pre ++ e :: post).map Ent.entry).toArray.eraseIdxIfInBounds pre.length = ((pre ++ post).map Ent.entry).toArray := by
    apply Array.toList_inj.1
    unfold Array.eraseIdxIfInBounds
    split
    · simp only [Array.toList_eraseIdx, List.map_append, List.map_cons]
      have := erase_pre (post.map Ent.entry) e.entry (pre.map Ent.entry)
      rw [List.length_map] at this
      exact this
    · rename_i h; simp at h
  unfold putMap
  rw [← hm]
  clear hm
  generalize (pre ++ e :: post).map Ent.entry = l at *
  simp [Builtin.delete_, run_underlying under_map, MapKept.run_getObj_map hb, run_checkKey Try.underlying3 (isKey _), run_findKey Try.underlying3 hf, Result.andThen, run_setObj_map _ hb]
end
end Pm
end Go.Proofs.Ythfkbfbchoekjaa
