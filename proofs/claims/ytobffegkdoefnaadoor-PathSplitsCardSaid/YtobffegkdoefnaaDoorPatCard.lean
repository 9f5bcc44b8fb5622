/- A start that meets the rows' condition: the library's tables unicode/utf8.first and acceptRanges as they are laid; arguments that are names. -/
import Derived.Test.YtobffegkdoefnaaDoorPatMem
import Derived.Test.YtobffegkdoefnaaDoorCrcArgs
import Derived.Test.YtobffegkdoefnaaDoorTie
import Derived.Test.YtobffegkdoefnaaDoorCards
import Derived.ProofKit
import Derived.Lay
import Derived.LaidMore
import Derived.LaidOnce
import Derived.OpenShut
import Derived.Stop.Joined
import Derived.ChangeMaps5
namespace Go.Proofs.YtobffegkdoefnaaDoor
open Go.RowKit Go.MapKept Go.ChangeShapes Go.WideShapes Go.ChangeAt Go.Deep

abbrev lst : List (String × DataW Unit) := [("unicode/utf8.acceptRanges", Rows.laid_unicode_utf8_acceptRanges), ("unicode/utf8.first", Rows.laid_unicode_utf8_first)]

/-- a start with both tables meets the condition -/
theorem door_met (os : Os) (args : Array Value) : laidMetH Tryd.prog lst ((World.laidAll Tryd.prog os lst).forCall (fun _ _ => 0) ⟨#[], args, []⟩).memory := by
  rw [MakeChecks.laidMetH_plain _ _ _ (by kernel_rfl)]
  exact laidMet_laidAll _ (by kernel_rfl) (by kernel_rfl)

namespace Pat
section
variable {H : Type} {enc : TypeId × Value → H} {W : World} {fuel : Nat} {sp : Nat → Bool} {held : Bool}
theorem open_strs {v : Value} {x : DataW H × List MemPlace} (h : DataW.trod enc Tryd.prog W 0 sp held fuel 22 [v] = some x) : ∃ A l c, v = .slice A l.length c ∧ Txs W A l ∧ l.length ≤ c ∧ (A = none → c = 0) := by
  obtain ⟨A, l, c, e, hc, hl, ha⟩ := Crc.open_ones (α := ByteArray) ByteArray.empty (fun s u => u = .string s ∧ s.size ≤ 9223372036854775807) Tryd.underlying22 (by kernel_rfl) (fun n u y hu => by
    obtain ⟨s, e, _, hw⟩ := DataW.trod_string Tryd.underlying9 hu
    simp at e
    exact ⟨s, e, by unfold maxLen at hw; omega⟩) h
  refine ⟨A, l, c, e, ⟨fun s hs => ?_, hl, fun j hj => ?_⟩, hc, ?_⟩
  · obtain ⟨j, hj, rfl⟩ := List.getElem_of_mem hs
    obtain ⟨_, _, _, _, _, _, _, h2⟩ := ha j hj
    exact h2
  · obtain ⟨b, o, u, e, h1, h2, rfl, _⟩ := ha j hj
    exact ⟨b, o, e, h1, h2⟩
  · rintro rfl
    subst e
    rcases Go.Deep.open_slice1 Tryd.underlying22 (by kernel_rfl) h with ⟨hcs, _⟩ | ⟨a, len, cap, m, n, V, D, Pl, hcs, _⟩
    · simp at hcs
      omega
    · simp at hcs
end
end Pat
end Go.Proofs.YtobffegkdoefnaaDoor
