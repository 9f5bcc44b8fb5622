/- The pending map, read by whatever relation on its values; a store into any map of the device's kind. -/
import Derived.Test.YtlcjnmoicjgaiaaPmKeys
import Derived.Maps.RangeWalk
namespace Go.Proofs.Ytlcjnmoicjgaiaa
open Go.RowKit Go.MapKept
namespace Pm

theorem rg_entryR {R : Value → Option (DataW Unit × List MemPlace)} (e : Ent) (hk : e.key < 4194304) (hR : R e.val = some (.nil, [])) : WideElems.rd Try.prog 3 R e.entry = some (.int .i64 (e.key : Int), .nil) := by
  simp [WideElems.rd, Ent.entry, keyOf_nat e.key hk, hR]

theorem rep_ownsMapR {w : World} {a : Nat} {D : Dev} (h : Rep w a D) (ok : D.abs.Ok) (R : Value → Option (DataW Unit × List MemPlace)) (hR : ∀ e ∈ D.ents, R e.val = some (.nil, [])) :
    ∃ D0 : DataW Unit, w.ownsMap Try.prog 3 R D.mb D.ents.length D0 ∧ (intKeys D0).Perm (D.ents.map fun e => (e.key : Int)) ∧ Maps.size D0 = D.ents.length := by
  have hkey : ∀ e ∈ D.ents, e.key < 4194304 := fun e he => by
    have := (ok.ent e.abs (List.mem_map_of_mem he)).1
    have hs := ok.size
    simp only [Ent.abs] at this
    omega
  have hmap : (D.ents.map Ent.entry).map (WideElems.rg Try.prog 3 R) = D.ents.map fun e => (Lit.int .i64 (e.key : Int), DataW.nil) := by
    rw [List.map_map]
    refine List.map_congr_left fun e he => ?_
    simp [WideElems.rg, rg_entryR e (hkey e he) (hR e he)]
  have hlen : D.ents.length ≤ 4194304 := by
    have := nodup_lt 4194304 (D.ents.map Ent.key) h.keys (fun k hk => by
      obtain ⟨e, he, rfl⟩ := List.mem_map.1 hk
      exact hkey e he)
    simpa using this
  have hperm := WideShapes.sorted_perm (D.ents.map fun e => (Lit.int .i64 (e.key : Int), (DataW.nil : DataW Unit)))
  refine ⟨_, ⟨_, _, h.map, ⟨?_, ?_, ?_⟩, ?_, rfl⟩, ?_, ?_⟩
  · simp only [List.size_toArray, List.length_map]
    unfold maxLen; omega
  · refine ⟨?_, ?_, ?_⟩
    · intro x hx
      obtain ⟨e, he, rfl⟩ := List.mem_map.1 hx
      exact h.stamp.1 e he
    · have : ((D.ents.map Ent.entry).map (·.born)) = D.ents.map Ent.born := by rw [List.map_map]; rfl
      show ((D.ents.map Ent.entry).map (·.born)).Nodup
      rw [this]
      exact h.stamp.2
    · have hk := h.keys
      have : ((D.ents.map Ent.entry).map (·.key)) = (D.ents.map Ent.key).map (fun k : Nat => Value.int .i64 (k : Int)) := by simp [Ent.entry]
      show ((D.ents.map Ent.entry).map (·.key)).Nodup
      rw [this]
      exact nodup_vals _ hk
  · intro x hx
    obtain ⟨e, he, rfl⟩ := List.mem_map.1 hx
    exact ⟨_, rg_entryR e (hkey e he) (hR e he)⟩
  · simp
  · show (List.map _ _).Perm _
    rw [hmap]
    refine (hperm.map _).trans ?_
    rw [List.map_map]
    exact List.Perm.refl _
  · simp only [Maps.size]
    rw [hmap, hperm.length_eq]
    simp

/-- just the entries' values -/
noncomputable def entElem (l : List Ent) (v : Value) : Option (DataW Unit × List MemPlace) := @ite _ (∃ e ∈ l, v = e.val) (Classical.propDecidable _) (some (.nil, [])) none
theorem entElem_of {l : List Ent} {e : Ent} (he : e ∈ l) : entElem l e.val = some (.nil, []) := by
  unfold entElem
  rw [if_pos ⟨e, he, rfl⟩]
theorem entElem_inv {l : List Ent} {v : Value} {y : DataW Unit × List MemPlace} (h : entElem l v = some y) : ∃ e ∈ l, v = e.val := by
  unfold entElem at h
  split at h
  · assumption
  · cases h

/-- all keys are ints -/
def IntKeys (es : Array MapEntry) : Prop := ∀ x ∈ es.toList, IsKey (.int .i64) x.key

theorem run_put_any {w : World} {b c : Nat} {es : Array MapEntry} (k : Int) (v : Value) (hb : w.heap[b]? = some (.map es c)) (hk : IntKeys es) :
    ∃ es' c' w', (Instr.mapUpdate 44 (.map (some b)) (.int .i64 k) v).run Try.prog w = .ok () w' ∧ IntKeys es' ∧ w'.heap[b]? = some (.map es' c') ∧ w.grownBy w' (some b) := by
  have hlt := (Array.getElem?_eq_some_iff.1 hb).1
  rcases findNow_spec (isKey k) es.toList 0 hk with ⟨hf, hn⟩ | ⟨j, e, hf, hj, he⟩
  · refine ⟨es.push ⟨.int .i64 k, v, c⟩, c + 1, { w with heap := w.heap.setIfInBounds b (.map (es.push ⟨.int .i64 k, v, c⟩) (c + 1)) }, ?_, ?_, ?_, ?_⟩
    · simp only [Instr.mapUpdate, Sem.run_bind, run_underlying under_map, Result.andThen, MapKept.run_getObj_map hb, run_checkKey Try.underlying3 (isKey _), run_findKey Try.underlying3 hf, run_setObj_map _ hb]
    · intro x hx
      simp only [Array.toList_push, List.mem_append, List.mem_singleton] at hx
      rcases hx with hx | rfl
      · exact hk x hx
      · exact isKey k
    · simp [hlt]
    · exact ⟨rfl, rfl, rfl, by simp, fun i hi hne => by simp [show b ≠ i from fun e => hne (by rw [e])]⟩
  · have hje : es[j]? = some e := by rw [← Array.getElem?_toList]; exact hj
    refine ⟨es.modify j (fun x => { x with key := .int .i64 k, val := v }), c, { w with heap := w.heap.setIfInBounds b (.map (es.modify j (fun x => { x with key := .int .i64 k, val := v })) c) }, ?_, ?_, ?_, ?_⟩
    · simp only [Instr.mapUpdate, Sem.run_bind, run_underlying under_map, Result.andThen, MapKept.run_getObj_map hb, run_checkKey Try.underlying3 (isKey _), run_findKey Try.underlying3 hf, Nat.zero_add, hje, Option.map_some, Option.getD_some, he, run_stays, run_setObj_map _ hb]
    · intro x hx
      simp only [Array.toList_modify] at hx
      obtain ⟨i, hi, rfl⟩ := List.mem_iff_getElem.1 hx
      rw [List.getElem_modify]
      split
      · exact isKey k
      · exact hk _ (List.getElem_mem _)
    · simp [hlt]
    · exact ⟨rfl, rfl, rfl, by simp, fun i hi hne => by simp [show b ≠ i from fun e => hne (by rw [e])]⟩
end Pm
end Go.Proofs.Ytlcjnmoicjgaiaa
