/- GeometryApart holds: for every three bytes the law returns true, and its arguments read as they did. No condition. -/
import Derived.Test.YtoagfpjaaiodgaaGeoApartLaw
import Derived.Deep.Slices
import Derived.OpenShut
import Derived.ChangeOld
namespace Go.Proofs.Ytoagfpjaaiodgaa
open Go.ChangeShapes Go.WideShapes Go.ChangeAt Go.RowKit
namespace Geo

theorem apart_any (w : World) (n m k : Nat) (hn : n < 256) (hm : m < 256) (hk : k < 256) :
    Calls Try.prog 4 #[.int .u8 (n : Int), .int .u8 (m : Int), .int .u8 (k : Int)] w fun r w' => r = .returned (.bool true) ∧ Below w.heap.size w w' := by
  obtain ⟨p, hp⟩ := plan_is n m k hn hm
  have e1 := hp.eN
  have e2 := hp.eM
  have hs := fun w => small_any w n m k hn hm hk
  rw [e1, e2] at hp
  rw [e1, e2] at hs
  exact apart_walk w n m k p (sz k) hp hs
end Geo

theorem knobA : ownKnob Try.prog.godebug = none := by kernel_rfl

set_option maxRecDepth 100000 in
theorem apart_lifted (os : Os) (started : os.Started) (H : Type) (enc : TypeId × Value → H) :
    ReturnsInHanded {} Try.checked os 4 .any (Rows.geometryApartSpec.pre6 enc Try.prog Try.f4 Rows.geometryApartRow.domain false) (Rows.geometryApartSpec.post enc Try.prog Try.f4 false true false false) := by
  refine returnsInHanded_of_change (C := Try.checked) knobA started (by kernel_rfl) Try.func4
    (ChangeSpec.witness6 (enc := enc) (C := Try.checked) false ⟨#[], #[.int .u8 0, .int .u8 0, .int .u8 0], []⟩ 8 (by kernel_rfl) (by kernel_rfl) (by kernel_rfl) (by kernel_rfl)) ?_
  intro W base args ds gs before hval0 hW _ _
  have hval : ∀ (j : Nat) t v, Try.f4.params[j]? = some t → args[j]? = some v → Value.okWide Try.prog W .any base t v := hval0
  have hW' := hW
  obtain ⟨p, q, hA0, hV, rfl, _, _⟩ := hW
  have hA : DataW.TrodAll enc Try.prog W 0 (fun _ => true) true Try.f4.params.toList args.toList ds p := hA0
  rw [Try.params4] at hA hval
  obtain ⟨v0, v1, v2, d0, d1, d2, p0, p1, p2, hargs, rfl, rfl, h0, h1, h2⟩ := trodAll_three hA
  obtain rfl : args = #[v0, v1, v2] := by cases args; simp_all
  obtain ⟨rfl, rfl⟩ := trodVars_none hV
  obtain ⟨a, rfl, rfl, rfl, w0⟩ := open_int Try.underlying5 (hval 0 5 v0 rfl rfl) h0
  obtain ⟨b, rfl, rfl, rfl, w1⟩ := open_int Try.underlying5 (hval 1 5 v1 rfl rfl) h1
  obtain ⟨c, rfl, rfl, rfl, w2⟩ := open_int Try.underlying5 (hval 2 5 v2 rfl rfl) h2
  have hb0 := bounds_u8 w0
  have hb1 := bounds_u8 w1
  have hb2 := bounds_u8 w2
  obtain ⟨x, rfl⟩ := Int.eq_ofNat_of_zero_le hb0.1
  obtain ⟨y, rfl⟩ := Int.eq_ofNat_of_zero_le hb1.1
  obtain ⟨z, rfl⟩ := Int.eq_ofNat_of_zero_le hb2.1
  refine (Geo.apart_any W x y z (by omega) (by omega) (by omega)).mono fun e W' ⟨he, hbel⟩ => ?_
  subst he
  refine ⟨_, rfl, _, _, _, [], [], [], hW', ?_, ?_, ?_, hbel.frame _, fun h => by cases h⟩
  · exact trodAll_mk1 (shut_bool Try.underlying4 _)
  · exact trodAll_mk3 (shut_int Try.underlying5 w0) (shut_int Try.underlying5 w1) (shut_int Try.underlying5 w2)
  · rfl

/-- for every input GeometryApart returns true -/
theorem apart_holds : Rows.GeometryApartSaid :=
  OpenClaim.holds_of_wide 4 Try.f4 rfl rfl rfl rfl rfl rfl rfl ⟨rfl, rfl, rfl, rfl, rfl⟩ rfl rfl rfl rfl rfl (by kernel_rfl) Try.func4 (by kernel_rfl)
    (of_decide_eq_true (by kernel_rfl)) (by unfold Func.isWrapper; first | (rw [if_pos (by decide +kernel)]; kernel_rfl) | (rw [if_neg (by decide +kernel)]; exact ⟨rfl, rfl⟩))
    (fun os started H enc _ => apart_lifted os started H enc)
#print axioms apart_holds
end Go.Proofs.Ytoagfpjaaiodgaa
