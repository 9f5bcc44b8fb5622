/- A map of pairs of numbers: what GeometryBits' map holds, and what its operations do. -/
import Derived.Test.YtoagfpjaaiodgaaGeoLives
import Derived.WideKeyPair
import Derived.WideKeyEntry
namespace Go.Proofs.Ytoagfpjaaiodgaa
open Go.RowKit Go.MapKept Go.ChangeMaps Go.WideElems
open Go.WideMaps (ArrKey keyOf_pair)
namespace Geo

theorem arr : ArrKey Try.prog 42 3 2 := ⟨Try.underlying42, by kernel_rfl, by kernel_rfl, by kernel_rfl⟩
theorem some_types : ∃ m, Try.prog.types.size = m + 1 := ⟨Try.prog.types.size - 1, by kernel_rfl⟩

/-- a pair -/
def ky (x y : Nat) : Value := .agg #[.int .i64 (x : Int), .int .i64 (y : Int)]
theorem wf64 {x : Nat} (h : x ≤ 1000000) : (Lit.int .i64 (x : Int)).wf = true := by
  simp [Lit.wf, IntKind.min, IntKind.max, IntKind.bits, IntKind.signed]
  omega
theorem key_some {x y : Nat} (hx : x ≤ 1000000) (hy : y ≤ 1000000) : ∃ l, keyOf Try.prog 42 (ky x y) = some l :=
  ⟨_, keyOf_pair arr Try.underlying3 some_types (wf64 hx) (wf64 hy)⟩

/-- the i-th block's entry, with a value -/
def ent (bm i : Nat) (v : Int) : MapEntry := ⟨ky (bm + i / 64) (i % 64), .int .i64 v, i⟩
/-- the entries of so many blocks -/
def ents (bm b : Nat) : Array MapEntry := ((List.range b).map (fun i => ent bm i 1)).toArray

theorem ents_succ (bm b : Nat) : (ents bm b).push (ent bm b 1) = ents bm (b + 1) := by
  apply Array.ext'
  simp [ents, List.range_succ]
theorem mem_ents {bm b : Nat} {e : MapEntry} (h : e ∈ (ents bm b).toList) : ∃ i, i < b ∧ e = ent bm i 1 := by
  simp [ents] at h
  obtain ⟨i, hi, rfl⟩ := h
  exact ⟨i, hi, rfl⟩
theorem ky_ne {bm i b : Nat} (h : i ≠ b) : ky (bm + i / 64) (i % 64) ≠ ky (bm + b / 64) (b % 64) := by
  intro e
  simp [ky] at e
  omega

theorem zero_int (w : World) : (zeroValue 3).run Try.prog w = .ok (.int .i64 0) w := by kernel_rfl
section
variable {w : World} {r bm b : Nat}

theorem find_new (hm : bm ≤ 500000) (hb : b ≤ 500000) (w : World) : (Instr.findKey 42 (ky (bm + b / 64) (b % 64)) (ents bm b).toList).run Try.prog w = .ok none w := by
  obtain ⟨l, hl⟩ := key_some (x := bm + b / 64) (y := b % 64) (by omega) (by omega)
  rcases arr.law.find w hl (ents bm b).toList (fun e he => by
    obtain ⟨i, hi, rfl⟩ := mem_ents he
    exact key_some (by omega) (by omega)) with ⟨h, _⟩ | ⟨j, e, _, h1, h2⟩
  · exact h
  · obtain ⟨i, hi, rfl⟩ := mem_ents (List.mem_of_getElem? h1)
    exact absurd h2 (ky_ne (by omega))

theorem find_zero (hm : bm ≤ 500000) (hb : b ≤ 500000) (w : World) : ∃ j, (Instr.findKey 42 (ky (bm + b / 64) (b % 64)) ((ents bm b).push (ent bm b 0)).toList).run Try.prog w = .ok (some (j, .int .i64 0)) w := by
  obtain ⟨l, hl⟩ := key_some (x := bm + b / 64) (y := b % 64) (by omega) (by omega)
  rcases arr.law.find w hl ((ents bm b).push (ent bm b 0)).toList (fun e he => by
    simp only [Array.toList_push, List.mem_append, List.mem_singleton] at he
    rcases he with he | rfl
    · obtain ⟨i, hi, rfl⟩ := mem_ents he
      exact key_some (by omega) (by omega)
    · exact ⟨l, hl⟩) with ⟨_, h⟩ | ⟨j, e, h, h1, h2⟩
  · exact absurd rfl (h (ent bm b 0) (by simp))
  · have he := List.mem_of_getElem? h1
    simp only [Array.toList_push, List.mem_append, List.mem_singleton] at he
    rcases he with he | rfl
    · obtain ⟨i, hi, rfl⟩ := mem_ents he
      exact absurd h2 (ky_ne (by omega))
    · exact ⟨j, h⟩

theorem run_look (hm : bm ≤ 500000) (hb : b ≤ 500000) (h : w.heap[r]? = some (.map (ents bm b) b)) :
    (Instr.lookup 41 (.map (some r)) (ky (bm + b / 64) (b % 64)) false).run Try.prog w = .ok (.int .i64 0) w := by
  obtain ⟨l, hl⟩ := key_some (x := bm + b / 64) (y := b % 64) (by omega) (by omega)
  simp [Instr.lookup, run_underlying Try.underlying41, MapKept.run_getObj_map h, arr.law.check w _ hl, find_new hm hb, Result.andThen]
theorem run_look_new (hm : bm ≤ 500000) (hb : b ≤ 500000) (h : w.heap[r]? = some (.map ((ents bm b).push (ent bm b 0)) (b + 1))) :
    (Instr.lookup 41 (.map (some r)) (ky (bm + b / 64) (b % 64)) false).run Try.prog w = .ok (.int .i64 0) w := by
  obtain ⟨l, hl⟩ := key_some (x := bm + b / 64) (y := b % 64) (by omega) (by omega)
  obtain ⟨j, hj⟩ := find_zero hm hb w
  simp only [Instr.lookup, Sem.run_bind, run_underlying Try.underlying41, Result.andThen, MapKept.run_getObj_map h, Sem.run_pure, arr.law.check w _ hl, hj]
  rfl
theorem run_entry (hm : bm ≤ 500000) (hb : b ≤ 500000) (h : w.heap[r]? = some (.map (ents bm b) b)) :
    (Instr.mapEntry 41 (.map (some r)) (ky (bm + b / 64) (b % 64))).run Try.prog w = .ok (.tuple #[.int .i64 0, .int .i64 (b : Int)]) (setBlock w r (.map ((ents bm b).push (ent bm b 0)) (b + 1))) := by
  obtain ⟨l, hl⟩ := key_some (x := bm + b / 64) (y := b % 64) (by omega) (by omega)
  simp [Instr.mapEntry, run_underlying Try.underlying41, MapKept.run_getObj_map h, arr.law.check w _ hl, find_new hm hb, MapKept.run_setObj_map _ h, Result.andThen, setBlock, ent, goInt]
theorem run_store (h : w.heap[r]? = some (.map ((ents bm b).push (ent bm b 0)) (b + 1))) :
    (Instr.entryStore 41 (.map (some r)) (.int .i64 (b : Int)) (.int .i64 1)).run Try.prog w = .ok () (setBlock w r (.map (ents bm (b + 1)) (b + 1))) := by
  have hidx : ((ents bm b).push (ent bm b 0)).findIdx? (fun e => ((e.born : Nat) : Int) == (b : Int)) = some (ents bm b).size := by
    rw [findIdx_arr]
    exact findIdx_born (l := ((ents bm b).push (ent bm b 0)).toList) (j := (ents bm b).size) (e0 := ent bm b 0) (by
      have e : (((ents bm b).push (ent bm b 0)).toList.map (·.born)) = List.range (b + 1) := by
        simp only [Array.toList_push, List.map_append, List.map_cons, List.map_nil, List.range_succ]
        congr 1
        simp only [ents, List.map_map]
        conv => rhs; rw [← List.map_id (List.range b)]
        rfl
      rw [e]
      exact List.nodup_range) (by simp)
  have hmod : ((ents bm b).push (ent bm b 0)).modify (ents bm b).size (fun e => { e with val := .int .i64 1 }) = ents bm (b + 1) := by
    rw [← ents_succ]
    apply Array.ext'
    rw [Array.toList_modify, Array.toList_push, Array.toList_push, ← Array.length_toList, modify_last]
    rfl
  simp [Instr.entryStore, MapKept.run_getObj_map h, asInt, asIntOf, hidx, hmod, MapKept.run_setObj_map _ h, Result.andThen, setBlock]
theorem run_len (h : w.heap[r]? = some (.map (ents bm b) b)) (ty : TypeId) : (Builtin.len_ #[41] ty #[.map (some r)]).run Try.prog w = .ok (.int .i64 (b : Int)) w := by
  simp [Builtin.len_, run_underlying Try.underlying41, MapKept.run_getObj_map h, Result.andThen, ents, goInt]
end
end Geo
end Go.Proofs.Ytoagfpjaaiodgaa
