/- Arguments that are slices of small unsigned numbers. -/
import Derived.Test.YtblibjjnbbleeaaDoorRunLives
import Derived.Test.YtblibjjnbbleeaaDoorPackArgs
import Derived.Deep.Slices
import Derived.OpenShut
import Derived.ChangeOld
namespace Go.Proofs.YtblibjjnbbleeaaDoor
open Go.RowKit Go.MapKept Go.ChangeShapes Go.WideShapes Go.Deep
namespace Rn
section
variable {H : Type} {enc : TypeId × Value → H} {W : World} {fuel : Nat} {sp : Nat → Bool} {held : Bool}
theorem open_u16s {v : Value} {x : DataW H × List MemPlace} (h : DataW.trod enc Tryd.prog W 0 sp held fuel 23 [v] = some x) : ∃ A l c, v = .slice A l.length c ∧ Uns .u16 W A l ∧ (∀ u ∈ l, u < 65536) ∧ l.length ≤ 9223372036854775807 := by
  obtain ⟨A, l, c, e, hc, hl, ha⟩ := Pack.open_ones (α := Nat) 0 (fun k u => u = .int .u16 (k : Int) ∧ k < 65536) Tryd.underlying23 (by kernel_rfl) (fun n u y hu => by
    obtain ⟨k, e, _, hw⟩ := DataW.trod_int Tryd.underlying22 hu
    simp at e
    have hb := bounds_u16 hw
    obtain ⟨q, rfl⟩ := Int.eq_ofNat_of_zero_le hb.1
    exact ⟨q, e, by omega⟩) h
  refine ⟨A, l, c, e, ⟨fun j hj => ?_⟩, fun b hb => ?_, hl⟩
  · obtain ⟨b, o, u, e, h1, h2, rfl, _⟩ := ha j hj
    exact ⟨b, o, e, h1, h2⟩
  · obtain ⟨j, hj, rfl⟩ := List.getElem_of_mem hb
    obtain ⟨_, _, _, _, _, _, _, h2⟩ := ha j hj
    exact h2
theorem open_u8s {v : Value} {x : DataW H × List MemPlace} (h : DataW.trod enc Tryd.prog W 0 sp held fuel 58 [v] = some x) : ∃ A l c, v = .slice A l.length c ∧ Uns .u8 W A l ∧ (∀ u ∈ l, u < 256) ∧ l.length ≤ 9223372036854775807 := by
  obtain ⟨A, l, c, e, hc, hl, ha⟩ := Pack.open_ones (α := Nat) 0 (fun k u => u = .int .u8 (k : Int) ∧ k < 256) Tryd.underlying58 (by kernel_rfl) (fun n u y hu => by
    obtain ⟨k, e, _, hw⟩ := DataW.trod_int Tryd.underlying5 hu
    simp at e
    have hb := bounds_u8 hw
    obtain ⟨q, rfl⟩ := Int.eq_ofNat_of_zero_le hb.1
    exact ⟨q, e, by omega⟩) h
  refine ⟨A, l, c, e, ⟨fun j hj => ?_⟩, fun b hb => ?_, hl⟩
  · obtain ⟨b, o, u, e, h1, h2, rfl, _⟩ := ha j hj
    exact ⟨b, o, e, h1, h2⟩
  · obtain ⟨j, hj, rfl⟩ := List.getElem_of_mem hb
    obtain ⟨_, _, _, _, _, _, _, h2⟩ := ha j hj
    exact h2
end
end Rn
end Go.Proofs.YtblibjjnbbleeaaDoor
