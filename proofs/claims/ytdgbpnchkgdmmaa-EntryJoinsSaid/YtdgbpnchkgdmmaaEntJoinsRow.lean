/- EntryJoins holds: for every row of entries the law returns true, and its argument reads as it did. No condition. -/
import Derived.Test.YtdgbpnchkgdmmaaEntJoinsLaw
import Derived.Test.YtdgbpnchkgdmmaaCrcArgs
namespace Go.Proofs.Ytdgbpnchkgdmmaa
open Go.ChangeShapes Go.WideShapes Go.ChangeAt Go.RowKit

namespace Ent
section
variable {H : Type} {enc : TypeId × Value → H} {W : World} {fuel : Nat} {sp : Nat → Bool} {held : Bool}
theorem cells_en : Try.prog.cellsOf 23 = 2 := by kernel_rfl
/-- an entry's two cells -/
theorem open_entry {cs : List Value} {x : DataW H × List MemPlace} (h : DataW.trod enc Try.prog W 0 sp held fuel 23 cs = some x) :
    ∃ f : En, cs = [.string f.1, .int .i64 f.2] ∧ f.1.size ≤ 9223372036854775807 := by
  obtain ⟨ys, n, _, _, hlen, hyl, hf⟩ := DataW.trod_struct Try.underlying23 h
  rw [cells_en] at hlen
  match cs, hlen with
  | [c0, c1], _ =>
    have g0 : DataW.trod enc Try.prog W 0 sp held n 9 [c0] = ys[0]? := hf 0 _ rfl
    have g1 : DataW.trod enc Try.prog W 0 sp held n 3 [c1] = ys[1]? := hf 1 _ rfl
    have hy : ys.length = 2 := hyl
    rw [List.getElem?_eq_getElem (by omega)] at g0 g1
    obtain ⟨s, e0, _, w0⟩ := DataW.trod_string Try.underlying9 g0
    obtain ⟨y, e1, _, w1⟩ := DataW.trod_int Try.underlying3 g1
    simp at e0 e1
    subst e0 e1
    exact ⟨(s, y), rfl, by unfold maxLen at w0; show s.size ≤ _; omega⟩

theorem open_entries {v : Value} {x : DataW H × List MemPlace} (h : DataW.trod enc Try.prog W 0 sp held fuel 26 [v] = some x) : ∃ A l c, v = .slice A l.length c ∧ Es W A l := by
  rcases Go.Deep.open_slice Try.underlying26 h with ⟨hcs, _⟩ | ⟨a, len, cap, m, n, D, Pl, hcs, _, hl, hm, hmm, hx, hi⟩
  · simp at hcs
    exact ⟨none, [], 0, hcs, fun f hf => by simp at hf, by simp, fun j hj => absurd hj (by simp)⟩
  · simp at hcs
    have hlen : len ≤ 9223372036854775807 := by unfold maxLen at hm; omega
    have hjm : ∀ i, i < len → i < m := fun i hi => by rw [hmm]; split <;> omega
    have one : ∀ i, ∃ f : En, i < len → (W.cell? (a.add (i * 2)) = some (.string f.1) ∧ W.cell? ((a.add (i * 2)).add 1) = some (.int .i64 f.2) ∧ f.1.size ≤ 9223372036854775807) := fun i => by
      by_cases hil : i < len
      · obtain ⟨cs', hc, ht⟩ := hi i (hjm i hil)
        rw [cells_en] at hc
        obtain ⟨f, rfl, h1⟩ := open_entry ht
        obtain ⟨_, _, hat⟩ := World.cells?_some hc
        have g0 := hat 0 (by omega)
        have g1 := hat 1 (by omega)
        simp only [List.getElem?_cons_zero, List.getElem?_cons_succ] at g0 g1
        refine ⟨f, fun _ => ⟨?_, ?_, h1⟩⟩
        · simpa [Addr.add] using g0
        · exact g1
      · exact ⟨(⟨#[]⟩, 0), fun h => absurd h hil⟩
    obtain ⟨f, hf⟩ := Classical.skolem.1 one
    have hget : ∀ j (hj : j < ((List.range len).map f).length), ((List.range len).map f)[j] = f j := fun j hj => by rw [List.getElem_map, List.getElem_range]
    refine ⟨some a, (List.range len).map f, cap, by rw [List.length_map, List.length_range]; exact hcs, fun g hg => ?_, by rw [List.length_map, List.length_range]; exact hlen, fun j hj => ?_⟩
    · obtain ⟨i, hi, rfl⟩ := List.mem_map.1 hg
      exact (hf i (List.mem_range.1 hi)).2.2
    · rw [hget j hj]
      rw [List.length_map, List.length_range] at hj
      have hc0 := (hf 0 (by omega)).1
      obtain ⟨b, o, spot⟩ := a
      have hspot : spot = none := by simpa [Addr.add] using World.cell?_spot hc0
      subst hspot
      obtain ⟨g0, g1, _⟩ := hf j hj
      simp only [Go.WideShapes.add_plain] at g0 g1
      exact ⟨b, o, rfl, Crc.cell_lt g0, g0, g1⟩
end
end Ent

set_option maxRecDepth 100000 in
theorem joins_lifted (os : Os) (started : os.Started) (H : Type) (enc : TypeId × Value → H) :
    ReturnsInHanded {} Try.checked os 6 .any (Rows.entryJoinsSpec.pre6 enc Try.prog Try.f6 Rows.entryJoinsRow.domain false) (Rows.entryJoinsSpec.post enc Try.prog Try.f6 false true false false) := by
  refine returnsInHanded_of_change (C := Try.checked) ownKnob_none started (by kernel_rfl) Try.func6
    (ChangeSpec.witness6 (enc := enc) (C := Try.checked) false ⟨#[], #[.slice none 0 0], []⟩ 8 (by kernel_rfl) (by kernel_rfl) (by kernel_rfl) (by kernel_rfl)) ?_
  intro W base args ds gs before hval0 hW _ _
  have hval : ∀ (j : Nat) t v, Try.f6.params[j]? = some t → args[j]? = some v → Value.okWide Try.prog W .any base t v := hval0
  have hW' := hW
  obtain ⟨p, q, hA0, hV, rfl, _, _⟩ := hW
  have hA : DataW.TrodAll enc Try.prog W 0 (fun _ => true) true Try.f6.params.toList args.toList ds p := hA0
  rw [Try.params6] at hA hval
  obtain ⟨v0, d0, rfl, rfl, h0⟩ := trodAll_one hA
  obtain ⟨rfl, rfl⟩ := trodVars_none hV
  obtain ⟨A0, n0, c0, rfl⟩ := okWide_slice Try.underlying26 (hval 0 26 v0 rfl rfl)
  have k0 := h0
  have lt0 : ∀ x ∈ p, x.block < W.heap.size := by obtain ⟨m, hm⟩ := k0; exact DataW.trod_lt m _ _ _ hm
  obtain ⟨fuel, hf⟩ := h0
  obtain ⟨A, l, c, e, hx⟩ := Ent.open_entries hf
  injection e with e1 e2 e3
  subst e1 e2 e3
  refine (Ent.joins_any A0 c0 l hx).mono fun e W' ⟨he, hbel⟩ => ?_
  subst he
  refine ⟨_, rfl, _, _, _, [], p, [], hW', ?_, ?_, ?_, hbel.frame _, fun h => by cases h⟩
  · exact trodAll_mk1 (shut_bool Try.underlying4 _)
  · exact trodAll_mk1 (Below.trod laidOut_try (by kernel_rfl) (of_decide_eq_true (by kernel_rfl)) k0 hbel lt0)
  · rfl

/-- for every input EntryJoins returns true -/
theorem joins_holds : Rows.EntryJoinsSaid :=
  OpenClaim.holds_of_wide 6 Try.f6 rfl rfl rfl rfl rfl rfl rfl ⟨rfl, rfl, rfl, rfl, rfl⟩ rfl rfl rfl rfl rfl (by kernel_rfl) Try.func6 (by kernel_rfl)
    (of_decide_eq_true (by kernel_rfl)) (by unfold Func.isWrapper; first | (rw [if_pos (by decide +kernel)]; kernel_rfl) | (rw [if_neg (by decide +kernel)]; exact ⟨rfl, rfl⟩))
    (fun os started H enc _ => joins_lifted os started H enc)
#print axioms joins_holds
end Go.Proofs.Ytdgbpnchkgdmmaa
