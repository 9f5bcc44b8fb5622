/- What the rows' condition gives: the table of math/bits as it lies; a start that meets it. -/
import Derived.Test.YtblibjjnbbleeaaDoorBmMem
import Derived.Test.YtblibjjnbbleeaaDoorPackArgs
import Derived.Test.YtblibjjnbbleeaaDoorTie
import Derived.Test.YtblibjjnbbleeaaDoorCards
import Derived.ProofKit
import Derived.LaidMore
import Derived.OpenShut
import Derived.Stop.Joined
namespace Go.Proofs.YtblibjjnbbleeaaDoor
open Go.ChangeShapes Go.WideShapes Go.ChangeAt Go.RowKit

abbrev lst : List (String × DataW Unit) := [("math/bits.deBruijn64tab", Rows.laid_math_bits_deBruijn64tab)]
theorem tab_global : Tryd.prog.globalNamed "math/bits.deBruijn64tab" = some 0 := by kernel_rfl
theorem tab_type : (Tryd.prog.globals[0]?).map (·.type) = some 86 := by kernel_rfl
theorem tab_cells : Tryd.prog.cellsOf 5 = 1 := by kernel_rfl

theorem tab_datum : (Rows.laid_math_bits_deBruijn64tab : DataW Unit) = .agg (Lib.deBruijn64tab.map fun k : Nat => .lit (.int .u8 (k : Int))) := rfl

/-- the start that the program's own initialisers leave meets the condition -/
theorem door_met (os : Os) (args : Array Value) : laidMetH Tryd.prog lst ((World.doorLaid Tryd.prog 14 os).forCall (fun _ _ => 0) ⟨#[], args, []⟩).memory :=
  laidMetH_of_parts3 (fuel := 8) (laidMet_of_run' 8 (by kernel_rfl) (by kernel_rfl)) (by kernel_rfl) (by kernel_rfl)

/-- what the condition gives: the table's cells -/
theorem tab_of_laid {W : World} (h : laidMetH Tryd.prog lst W) : Bm.Tab W := by
  rw [MakeChecks.laidMetH_plain _ _ _ (by kernel_rfl)] at h
  obtain ⟨ps, ⟨g0, t0, cs0, f0, p0, q0, hg0, ht0, hv0, hd0, _⟩, _, _⟩ := h
  obtain rfl := Option.some.inj (tab_global.symm.trans hg0)
  obtain rfl := Option.some.inj (tab_type.symm.trans ht0)
  obtain ⟨xs, m1, rfl, hx1, hlen, hn, hel⟩ := DataW.trod_array Tryd.underlying86 hd0
  rw [tab_datum] at hx1
  injection hx1 with hx1 _
  injection hx1 with hx1
  intro j hj
  rw [World.var?_cell hg0 hv0 j]
  have hj' : j < xs.length := by omega
  have he := hel j hj
  rw [List.getElem?_eq_getElem hj', tab_cells, Nat.mul_one] at he
  obtain ⟨k, e1, e2, _⟩ := DataW.trod_int Tryd.underlying5 he
  have hk := congrArg (·[j]?) hx1
  have hjd : j < Lib.deBruijn64tab.length := hj
  simp only [List.getElem?_map, List.getElem?_eq_getElem hj', List.getElem?_eq_getElem hjd, Option.map_some, e2, Option.some.injEq, DataW.lit.injEq, Lit.int.injEq, true_and] at hk
  have hc := congrArg (·[0]?) e1
  simp only [List.getElem?_take, List.getElem?_drop, Nat.add_zero, Nat.lt_one_iff, if_true, List.getElem?_cons_zero] at hc
  rw [Array.getElem?_toList] at hc
  rw [hc, ← hk, List.getD_eq_getElem?_getD, List.getElem?_eq_getElem hjd]
  rfl
end Go.Proofs.YtblibjjnbbleeaaDoor
