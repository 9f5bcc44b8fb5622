/- GeometryPlaces holds: for every four numbers the law returns true, and its arguments read as they did. No condition. -/
import Derived.Test.YtoagfpjaaiodgaaGeoPlacesYes
import Derived.Deep.Slices
import Derived.OpenShut
import Derived.ChangeOld
namespace Go.Proofs.Ytoagfpjaaiodgaa
open Go.ChangeShapes Go.WideShapes Go.ChangeAt Go.RowKit
namespace Geo

theorem places_any (w : World) (n m s i : Int) (hn : I64 n) (hs : I64 s) (hi : I64 i) :
    Calls Try.prog 3 #[.int .i64 n, .int .i64 m, .int .i64 s, .int .i64 i] w fun r w' => r = .returned (.bool true) ∧ Below w.heap.size w w' := by
  cases hm : may n m s with
  | false => exact places_no w n m s i hn hs hi.2 hm
  | true =>
    obtain ⟨⟨h1, h2, h3⟩, _⟩ := may_num hm
    refine places_yes w n m s i _ _ _ _ _ hm rfl rfl rfl rfl rfl hi ?_ ?_ ?_ ?_ ?_ ?_ ?_
    · intro h
      have hb : ¬ Is n m s i := fun h' => h ⟨h'.2.1, by have := h'.2.2; omega⟩
      refine ⟨plc_out (fun h' => h ⟨h'.1, by omega⟩), plc_out (fun h' => h ⟨h'.1, by omega⟩), plc_out (fun h' => h ⟨h'.1, by omega⟩), isf_no hb, isf_no hb⟩
    · by_cases h : 0 ≤ i ∧ i < m
      · rw [inn_yes h, plc_yes hm h.1 h.2]; omega
      · rw [inn_no h, plc_out h]
    · by_cases h : 0 ≤ i ∧ i < n
      · rw [inn_yes h, plc_yes hm h.1 h.2]; omega
      · rw [inn_no h, plc_out h]
    · by_cases h : 0 ≤ i ∧ i < n
      · rw [inn_yes h, plc_yes hm h.1 h.2]
      · rw [inn_no h, plc_out h]
    · by_cases h : 0 ≤ i ∧ i < n
      · rw [inn_yes h, isf_yes (show Is n m s i from ⟨hm, h.1, h.2⟩)]
      · rw [inn_no h, isf_no (fun h' : Is n m s i => h h'.2)]
    · intro h h'
      exact isf_yes ⟨hm, h, h'⟩
    · intro h
      exact isf_no (fun h' => by have := h'.2.2; omega)
end Geo

theorem knobP : ownKnob Try.prog.godebug = none := by kernel_rfl

set_option maxRecDepth 100000 in
theorem places_lifted (os : Os) (started : os.Started) (H : Type) (enc : TypeId × Value → H) :
    ReturnsInHanded {} Try.checked os 3 .any (Rows.geometryPlacesSpec.pre6 enc Try.prog Try.f3 Rows.geometryPlacesRow.domain false) (Rows.geometryPlacesSpec.post enc Try.prog Try.f3 false true false false) := by
  refine returnsInHanded_of_change (C := Try.checked) knobP started (by kernel_rfl) Try.func3
    (ChangeSpec.witness6 (enc := enc) (C := Try.checked) false ⟨#[], #[.int .i64 0, .int .i64 0, .int .i64 0, .int .i64 0], []⟩ 8 (by kernel_rfl) (by kernel_rfl) (by kernel_rfl) (by kernel_rfl)) ?_
  intro W base args ds gs before hval0 hW _ _
  have hval : ∀ (j : Nat) t v, Try.f3.params[j]? = some t → args[j]? = some v → Value.okWide Try.prog W .any base t v := hval0
  have hW' := hW
  obtain ⟨p, q, hA0, hV, rfl, _, _⟩ := hW
  have hA : DataW.TrodAll enc Try.prog W 0 (fun _ => true) true Try.f3.params.toList args.toList ds p := hA0
  rw [Try.params3] at hA hval
  obtain ⟨v0, v1, v2, v3, d0, d1, d2, d3, p0, p1, p2, p3, hargs, rfl, rfl, h0, h1, h2, h3⟩ := trodAll_four hA
  obtain rfl : args = #[v0, v1, v2, v3] := by cases args; simp_all
  obtain ⟨rfl, rfl⟩ := trodVars_none hV
  obtain ⟨a, rfl, rfl, rfl, w0⟩ := open_int Try.underlying3 (hval 0 3 v0 rfl rfl) h0
  obtain ⟨b, rfl, rfl, rfl, w1⟩ := open_int Try.underlying3 (hval 1 3 v1 rfl rfl) h1
  obtain ⟨c, rfl, rfl, rfl, w2⟩ := open_int Try.underlying3 (hval 2 3 v2 rfl rfl) h2
  obtain ⟨n, rfl, rfl, rfl, w3⟩ := open_int Try.underlying3 (hval 3 3 v3 rfl rfl) h3
  have hb0 := bounds_i64 w0
  have hb2 := bounds_i64 w2
  have hb3 := bounds_i64 w3
  refine (Geo.places_any W a b c n hb0 hb2 hb3).mono fun e W' ⟨he, hbel⟩ => ?_
  subst he
  refine ⟨_, rfl, _, _, _, [], [], [], hW', ?_, ?_, ?_, hbel.frame _, fun h => by cases h⟩
  · exact trodAll_mk1 (shut_bool Try.underlying4 _)
  · exact trodAll_mk4 (shut_int Try.underlying3 w0) (shut_int Try.underlying3 w1) (shut_int Try.underlying3 w2) (shut_int Try.underlying3 w3)
  · rfl

/-- for every input GeometryPlaces returns true -/
theorem places_holds : Rows.GeometryPlacesSaid :=
  OpenClaim.holds_of_wide 3 Try.f3 rfl rfl rfl rfl rfl rfl rfl ⟨rfl, rfl, rfl, rfl, rfl⟩ rfl rfl rfl rfl rfl (by kernel_rfl) Try.func3 (by kernel_rfl)
    (of_decide_eq_true (by kernel_rfl)) (by unfold Func.isWrapper; first | (rw [if_pos (by decide +kernel)]; kernel_rfl) | (rw [if_neg (by decide +kernel)]; exact ⟨rfl, rfl⟩))
    (fun os started H enc _ => places_lifted os started H enc)
#print axioms places_holds
end Go.Proofs.Ytoagfpjaaiodgaa
