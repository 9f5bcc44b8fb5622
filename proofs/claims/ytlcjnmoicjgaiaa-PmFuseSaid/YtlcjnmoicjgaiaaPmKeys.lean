/- The device's pending map as the library's contracts want it. -/
import Derived.Test.YtlcjnmoicjgaiaaPmAbs
import Derived.Lib.SlKeysI
import Derived.Maps.Own
namespace Go.Proofs.Ytlcjnmoicjgaiaa
open Go.RowKit Go.MapKept
namespace Pm

def anyElem : Value → Option (DataW Unit × List MemPlace) := fun _ => some (.nil, [])

theorem keyOf_nat (k : Nat) (hk : k < 4194304) : keyOf Try.prog 3 (.int .i64 (k : Int)) = some (.int .i64 (k : Int)) :=
  Maps.keyOf_int_mk Try.underlying3 (WalkArith.wf_i64 (by omega))

theorem rg_entry (e : Ent) (hk : e.key < 4194304) : WideElems.rd Try.prog 3 anyElem e.entry = some (.int .i64 (e.key : Int), .nil) := by
  simp [WideElems.rd, Ent.entry, keyOf_nat e.key hk, anyElem]

theorem nodup_vals : ∀ l : List Nat, l.Nodup → (l.map (fun k : Nat => Value.int .i64 (k : Int))).Nodup
  | [], _ => by simp
  | x :: r, h => by
    have h1 := List.nodup_cons.1 h
    rw [List.map_cons]
    refine List.nodup_cons.2 ⟨fun hx => ?_, nodup_vals r h1.2⟩
    obtain ⟨y, hy, e⟩ := List.mem_map.1 hx
    injection e with _ e
    have : x = y := by omega
    exact h1.1 (this ▸ hy)

theorem rep_ownsMap {w : World} {a : Nat} {D : Dev} (h : Rep w a D) (ok : D.abs.Ok) :
    ∃ D0 : DataW Unit, w.ownsMap Try.prog 3 anyElem D.mb D.ents.length D0 ∧ (intKeys D0).Perm (D.ents.map fun e => (e.key : Int)) ∧ Maps.size D0 = D.ents.length := by
  have hkey : ∀ e ∈ D.ents, e.key < 4194304 := fun e he => by
    have := (ok.ent e.abs (List.mem_map_of_mem he)).1
    have hs := ok.size
    simp only [Ent.abs] at this
    omega
  have hmap : (D.ents.map Ent.entry).map (WideElems.rg Try.prog 3 anyElem) = D.ents.map fun e => (Lit.int .i64 (e.key : Int), DataW.nil) := by
    rw [List.map_map]
    refine List.map_congr_left fun e he => ?_
    simp [WideElems.rg, rg_entry e (hkey e he)]
  have hlen : D.ents.length ≤ 4194304 := by
    have := nodup_lt 4194304 (D.ents.map Ent.key) h.keys (fun k hk => by
      obtain ⟨e, he, rfl⟩ := List.mem_map.1 hk
      exact hkey e he)
    simpa using this
  have hperm := WideShapes.sorted_perm (D.ents.map fun e => (Lit.int .i64 (e.key : Int), (DataW.nil : DataW Unit)))
  refine ⟨_, ⟨_, _, h.map, ⟨?_, ?_, ?_⟩, ?_, rfl⟩, ?_, ?_⟩
  · simp only [List.size_toArray, List.length_map]
    unfold maxLen; omega
  · refine ⟨?_, ?_, ?_⟩
    · intro x hx
      obtain ⟨e, he, rfl⟩ := List.mem_map.1 hx
      exact h.stamp.1 e he
    · have : ((D.ents.map Ent.entry).map (·.born)) = D.ents.map Ent.born := by rw [List.map_map]; rfl
      show ((D.ents.map Ent.entry).map (·.born)).Nodup
      rw [this]
      exact h.stamp.2
    · have hk := h.keys
      have : ((D.ents.map Ent.entry).map (·.key)) = (D.ents.map Ent.key).map (fun k : Nat => Value.int .i64 (k : Int)) := by simp [Ent.entry]
      show ((D.ents.map Ent.entry).map (·.key)).Nodup
      rw [this]
      exact nodup_vals _ hk
  · intro x hx
    obtain ⟨e, he, rfl⟩ := List.mem_map.1 hx
    exact ⟨_, rg_entry e (hkey e he)⟩
  · simp
  · show (List.map _ _).Perm _
    rw [hmap]
    refine (hperm.map _).trans ?_
    rw [List.map_map]
    exact List.Perm.refl _
  · simp only [Maps.size]
    rw [hmap, hperm.length_eq]
    simp
end Pm
end Go.Proofs.Ytlcjnmoicjgaiaa
