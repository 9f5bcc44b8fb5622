/- The document's May and Encode. -/
import Derived.Test.YtoigfhijlnajoaaInoDecode
namespace Go.Proofs.Ytoigfhijlnajoaa
open Go.RowKit Go.MapKept
namespace Ino
open Lin

theorem may_iff {k h s : Int} : may k h s = true ↔ May k h s := decide_eq_true_iff
theorem ret_bool {a b : Bool} (h : a = true ↔ b = true) : Ending.returned (Value.bool a) = Ending.returned (Value.bool b) := by rw [Bool.eq_iff_iff.2 h]

set_option maxHeartbeats 1000000 in
theorem refMay_any (w : World) (k h s : Int) :
    Calls Try.prog 21 #[.agg #[.int .i64 k, .int .i64 h, .int .i64 s]] w fun r w' => r = .returned (.bool (may k h s)) ∧ Below w.heap.size w w' := by
  by_cases h0 : k = 0
  · subst h0
    go_enter Try.func21, Try.ntmps21
    go_wp2
    all_goals go_ret
    all_goals refine ⟨ret_bool ?_, (Below.refl _ _).alloc (Nat.le_refl _) _⟩
    all_goals refine Iff.trans ?_ may_iff.symm
    all_goals unfold May
    · rw [beq_iff_eq]
      omega
    · simp only [Bool.false_eq_true, false_iff]
      omega
  · go_enter Try.func21, Try.ntmps21
    go_wp2
    all_goals go_ret
    all_goals refine ⟨ret_bool ?_, (Below.refl _ _).alloc (Nat.le_refl _) _⟩
    all_goals refine Iff.trans ?_ may_iff.symm
    all_goals unfold May
    all_goals simp only [bne_iff_ne, bne_eq_false_iff_eq, ne_eq, beq_iff_eq, decide_eq_true_eq, Bool.false_eq_true, true_iff, false_iff] at *
    all_goals omega
end Ino
end Go.Proofs.Ytoigfhijlnajoaa
