/- within, isBlock, May, isEmpty, walked; the document's May. -/
import Derived.Test.YtamkelcgalfkcaaRecMath
namespace Go.Proofs.Ytamkelcgalfkcaa
open Go.RowKit Go.MapKept
namespace Rec
open Lin

theorem within_any (w : World) (n a b : Int) :
    Calls Try.prog 21 #[.int .i64 n, .int .i64 a, .int .i64 b] w fun e w' => e = .returned (.bool (decide (a ≤ n ∧ n ≤ b))) ∧ w = w' := by
  go_enter Try.func21, Try.ntmps21
  go_wp2
  · rename_i h
    go_ret
    exact ⟨by simp [h], rfl⟩
  · rename_i h
    go_ret
    refine ⟨?_, rfl⟩
    have : ¬ a ≤ n := by omega
    simp [this]

theorem block_any (w : World) (n : Int) :
    Calls Try.prog 20 #[.int .i64 n] w fun e w' => e = .returned (.bool (decide (0 ≤ n ∧ n ≤ 65533))) ∧ w = w' := by
  have HW := Lib.hid (fun w => within_any w n 0 65533)
  generalize decide (0 ≤ n ∧ n ≤ 65533) = b at *
  go_enter Try.func20, Try.ntmps20
  go_wp2_with fail
  refine (HW.out _).mono ?_
  rintro e w' ⟨rfl, rfl⟩
  go_wp2
  go_ret
  exact ⟨rfl, rfl⟩

set_option maxHeartbeats 1000000 in
theorem may_any (w : World) (s f t c : Int) :
    Calls Try.prog 10 #[.agg #[.int .i64 s, .int .i64 f, .int .i64 t, .int .i64 c]] w fun r w' => r = .returned (.bool (may s f t c)) ∧ Below w.heap.size w w' := by
  have HB := Lib.hid ((Below.refl w.heap.size w).alloc (Nat.le_refl _) (.cells #[.int .i64 s, .int .i64 f, .int .i64 t, .int .i64 c] 23))
  have HS := Lib.hid (fun w => block_any w s)
  have HF := Lib.hid (fun w => block_any w f)
  have HT := Lib.hid (fun w => block_any w t)
  have HC := Lib.hid (fun w => within_any w c 1 65534)
  by_cases h0 : 0 ≤ s ∧ s ≤ 65533
  · skip
    by_cases h1 : 0 ≤ f ∧ f ≤ 65533
    · skip
      by_cases h2 : 0 ≤ t ∧ t ≤ 65533
      · skip
        by_cases h3 : 1 ≤ c ∧ c ≤ 65534
        · have HE := Lib.hid (show may s f t c = true by unfold may May; exact decide_eq_true ⟨h0, h1, h2, h3⟩)
          have E0 := Lib.hid (decide_eq_true h0)
          have E1 := Lib.hid (decide_eq_true h1)
          have E2 := Lib.hid (decide_eq_true h2)
          have E3 := Lib.hid (decide_eq_true h3)
          clear h0 h1 h2 h3
          go_enter Try.func10, Try.ntmps10
          go_wp2_with fail
          refine (HS.out _).mono ?_
          rintro e w' ⟨rfl, rfl⟩
          rw [E0.out]
          go_wp2_with fail
          refine (HF.out _).mono ?_
          rintro e w' ⟨rfl, rfl⟩
          rw [E1.out]
          go_wp2_with fail
          refine (HT.out _).mono ?_
          rintro e w' ⟨rfl, rfl⟩
          rw [E2.out]
          go_wp2_with fail
          refine (HC.out _).mono ?_
          rintro e w' ⟨rfl, rfl⟩
          rw [E3.out]
          go_wp2
          go_ret
          exact ⟨by rw [HE.out]; rfl, HB.out⟩
        · have HE := Lib.hid (show may s f t c = false by unfold may May; exact decide_eq_false (fun h => h3 h.2.2.2))
          have E0 := Lib.hid (decide_eq_true h0)
          have E1 := Lib.hid (decide_eq_true h1)
          have E2 := Lib.hid (decide_eq_true h2)
          have E3 := Lib.hid (decide_eq_false h3)
          clear h0 h1 h2 h3
          go_enter Try.func10, Try.ntmps10
          go_wp2_with fail
          refine (HS.out _).mono ?_
          rintro e w' ⟨rfl, rfl⟩
          rw [E0.out]
          go_wp2_with fail
          refine (HF.out _).mono ?_
          rintro e w' ⟨rfl, rfl⟩
          rw [E1.out]
          go_wp2_with fail
          refine (HT.out _).mono ?_
          rintro e w' ⟨rfl, rfl⟩
          rw [E2.out]
          go_wp2_with fail
          refine (HC.out _).mono ?_
          rintro e w' ⟨rfl, rfl⟩
          rw [E3.out]
          go_wp2
          go_ret
          exact ⟨by rw [HE.out]; rfl, HB.out⟩
      · have HE := Lib.hid (show may s f t c = false by unfold may May; exact decide_eq_false (fun h => h2 h.2.2.1))
        have E0 := Lib.hid (decide_eq_true h0)
        have E1 := Lib.hid (decide_eq_true h1)
        have E2 := Lib.hid (decide_eq_false h2)
        clear h0 h1 h2
        go_enter Try.func10, Try.ntmps10
        go_wp2_with fail
        refine (HS.out _).mono ?_
        rintro e w' ⟨rfl, rfl⟩
        rw [E0.out]
        go_wp2_with fail
        refine (HF.out _).mono ?_
        rintro e w' ⟨rfl, rfl⟩
        rw [E1.out]
        go_wp2_with fail
        refine (HT.out _).mono ?_
        rintro e w' ⟨rfl, rfl⟩
        rw [E2.out]
        go_wp2
        go_ret
        exact ⟨by rw [HE.out]; rfl, HB.out⟩
    · have HE := Lib.hid (show may s f t c = false by unfold may May; exact decide_eq_false (fun h => h1 h.2.1))
      have E0 := Lib.hid (decide_eq_true h0)
      have E1 := Lib.hid (decide_eq_false h1)
      clear h0 h1
      go_enter Try.func10, Try.ntmps10
      go_wp2_with fail
      refine (HS.out _).mono ?_
      rintro e w' ⟨rfl, rfl⟩
      rw [E0.out]
      go_wp2_with fail
      refine (HF.out _).mono ?_
      rintro e w' ⟨rfl, rfl⟩
      rw [E1.out]
      go_wp2
      go_ret
      exact ⟨by rw [HE.out]; rfl, HB.out⟩
  · have HE := Lib.hid (show may s f t c = false by unfold may May; exact decide_eq_false (fun h => h0 h.1))
    have E0 := Lib.hid (decide_eq_false h0)
    clear h0
    go_enter Try.func10, Try.ntmps10
    go_wp2_with fail
    refine (HS.out _).mono ?_
    rintro e w' ⟨rfl, rfl⟩
    rw [E0.out]
    go_wp2
    go_ret
    exact ⟨by rw [HE.out]; rfl, HB.out⟩

theorem may_iff {s f t c : Int} : may s f t c = true ↔ May s f t c := decide_eq_true_iff
theorem ret_bool {a b : Bool} (h : a = true ↔ b = true) : Ending.returned (Value.bool a) = Ending.returned (Value.bool b) := by rw [Bool.eq_iff_iff.2 h]

set_option maxHeartbeats 1000000 in
theorem refMay_any (w : World) (s f t c : Int) :
    Calls Try.prog 9 #[.agg #[.int .i64 s, .int .i64 f, .int .i64 t, .int .i64 c]] w fun r w' => r = .returned (.bool (may s f t c)) ∧ Below w.heap.size w w' := by
  go_enter Try.func9, Try.ntmps9
  go_wp2
  all_goals go_ret
  all_goals refine ⟨ret_bool ?_, (Below.refl _ _).alloc (Nat.le_refl _) _⟩
  all_goals refine Iff.trans ?_ may_iff.symm
  all_goals unfold May
  all_goals simp only [decide_eq_true_eq, Bool.false_eq_true, false_iff] at *
  all_goals omega

section
variable {w : World}
set_option maxHeartbeats 1000000 in
theorem empty_any (A : Option Addr) (c : Nat) (l : List Nat) (h : Pack.Wds w A l) :
    Calls Try.prog 22 #[.slice A l.length c] w fun e w' => e = .returned (.bool (l.all (fun x => x == 0))) ∧ w = w' := by
  have hlen := h.len
  have H := Lib.hid h
  clear h
  go_enter Try.func22, Try.ntmps22
  go_wp2
  go_loopw [7] (fun i wr => ∃ j : Nat, j ≤ l.length ∧ i = .int .i64 (j : Int) ∧ (l.take j).all (fun x => x == 0) = true ∧ w = wr) (fun i _ => l.length - (intOf i).toNat)
  case atStart => exact ⟨0, Nat.zero_le _, rfl, rfl, rfl⟩
  case round =>
    obtain ⟨j, hj, rfl, hs, rfl⟩ := hrel
    have HS := Lib.hid hs
    clear hs
    by_cases hlt : j < l.length
    · obtain ⟨b, o, rfl, hb, hcell⟩ := H.out.at' j hlt
      have hi0 : (0 : Int) ≤ (j : Int) := by omega
      have hi1 : (j : Int) < (l.length : Int) := by omega
      have HT := Lib.hid (show (l.take (j + 1)).all (fun x => x == 0) = (l[j] == 0) by
        rw [List.take_succ_eq_append_getElem hlt, List.all_append, HS.out]
        simp)
      have HA := Lib.hid (show l[j] ≠ 0 → l.all (fun x => x == 0) = false from fun h => by
        rw [Bool.eq_false_iff]
        intro ha
        exact h (by simpa using List.all_eq_true.1 ha l[j] (List.getElem_mem _)))
      generalize l[j] = x at *
      by_cases hx : x = 0
      · subst hx
        go_wp2
        refine ⟨⟨j + 1, by omega, by go_num, HT.out, trivial⟩, by simp [intOf]; omega⟩
      · have HN := Lib.hid (HA.out hx)
        have hne : ¬ (x : Int) = 0 := by omega
        clear HA HT hx
        go_wp2
        go_ret
        exact ⟨by rw [HN.out]; rfl, rfl⟩
    · obtain rfl : j = l.length := by omega
      have HN := Lib.hid (show l.all (fun x => x == 0) = true by have := HS.out; rwa [List.take_length] at this)
      go_wp2
      go_ret
      exact ⟨by rw [HN.out]; rfl, rfl⟩
end

theorem all_zero {l : List Nat} (hl : l.length = 8) : l.all (fun x => x == 0) = decide (l = zero) := by
  have e : ∀ l : List Nat, l.all (fun x => x == 0) = true → l = List.replicate l.length 0 := fun l h => List.eq_replicate_iff.2 ⟨rfl, fun x hx => by simpa using List.all_eq_true.1 h x hx⟩
  cases h : l.all (fun x => x == 0) with
  | true =>
    have := e l h
    rw [hl] at this
    exact (decide_eq_true this).symm
  | false =>
    refine (decide_eq_false (fun h0 => ?_)).symm
    rw [h0] at h
    revert h
    decide
end Rec
end Go.Proofs.Ytamkelcgalfkcaa
