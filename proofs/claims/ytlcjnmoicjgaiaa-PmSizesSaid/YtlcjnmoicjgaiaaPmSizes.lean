/- PmSizes holds: for every int the law returns true, and its argument reads as it did. No condition. -/
import Derived.Test.YtlcjnmoicjgaiaaPmLives
import Derived.OpenShut
namespace Go.Proofs.Ytlcjnmoicjgaiaa
open Go.RowKit Go.MapKept
namespace Pm

theorem fresh_load (m : Nat) (i : Int) : (if (Abs.fresh m).has i then (Abs.fresh m).words[i.toNat]?.getD 0 else 0) = 0 := by
  split
  · simp only [Abs.fresh, List.getElem?_replicate]
    split <;> rfl
  · rfl
theorem fresh_len (m : Nat) : (Abs.fresh m).words.length = m := by simp [Abs.fresh]
theorem fresh_store (m : Nat) (i : Int) (h : (m : Int) ≤ i) : (Abs.fresh m).canStore i = false := by
  simp only [Abs.canStore, Abs.has, fresh_len, Bool.and_eq_false_iff, decide_eq_false_iff_not]
  omega
theorem fresh_storeAt (m : Nat) (i x : Int) (h : (m : Int) ≤ i) : (Abs.fresh m).storeAt i x = Abs.fresh m := by
  simp [Abs.storeAt, fresh_store m i h]
theorem fresh_flush (m : Nat) (i : Int) (h : ((m : Int) + 7) / 8 ≤ i) : (Abs.fresh m).canFlush i = false := by
  simp only [Abs.canFlush, fresh_len, Bool.and_eq_false_iff, decide_eq_false_iff_not]
  omega
theorem fresh_flushAt (m : Nat) (i : Int) (h : ((m : Int) + 7) / 8 ≤ i) : (Abs.fresh m).flushAt i = Abs.fresh m := by
  simp [Abs.flushAt, fresh_flush m i h]
theorem fresh_flush0 (m : Nat) (h : 0 < m) : (Abs.fresh m).canFlush 0 = true := by
  simp only [Abs.canFlush, fresh_len, Bool.and_eq_true, decide_eq_true_eq]
  exact ⟨⟨by omega, by omega⟩, rfl⟩

section
variable {B a : Nat} {w0 w : World} {m : Nat}
theorem z_len (h : Ses B w0 w a (Abs.fresh m)) (u : Int) (hu : u = (m : Int)) : Calls Try.prog 10 #[.pointer (some ⟨a, 0, none⟩)] w fun r w' => r = .returned (.int .i64 u) ∧ w = w' := by
  have := ses_len h
  rw [fresh_len, ← hu] at this
  exact this
theorem z_load (h : Ses B w0 w a (Abs.fresh m)) (i : Int) : Calls Try.prog 13 #[.pointer (some ⟨a, 0, none⟩), .int .i64 i] w fun r w' => r = .returned (.int .u64 0) ∧ w = w' := by
  have := ses_load h i
  rw [fresh_load] at this
  exact this
theorem z_store (h : Ses B w0 w a (Abs.fresh m)) (i : Int) (hi : (m : Int) ≤ i) : Calls Try.prog 21 #[.pointer (some ⟨a, 0, none⟩), .int .i64 i, .int .u64 1] w fun r w' => r = .returned (.bool false) ∧ Ses B w0 w' a (Abs.fresh m) := by
  have := ses_store h i 1 (by show 0 + 1 < 100000000000; omega)
  rw [fresh_store m i hi, fresh_storeAt m i 1 hi] at this
  exact this
theorem z_flush (h : Ses B w0 w a (Abs.fresh m)) (i : Int) (hi : ((m : Int) + 7) / 8 ≤ i) : Calls Try.prog 22 #[.pointer (some ⟨a, 0, none⟩), .int .i64 i] w fun r w' => r = .returned (.bool false) ∧ Ses B w0 w' a (Abs.fresh m) := by
  have := ses_flush h i (by show 0 + 1 < 100000000000; omega)
  rw [fresh_flush m i hi, fresh_flushAt m i hi] at this
  exact this
theorem z_flush0 (h : Ses B w0 w a (Abs.fresh m)) (hm : 0 < m) : Calls Try.prog 22 #[.pointer (some ⟨a, 0, none⟩), .int .i64 0] w fun r w' => r = .returned (.bool true) ∧ Below B w0 w' := by
  have := ses_flush h 0 (by show 0 + 1 < 100000000000; omega)
  rw [fresh_flush0 m hm] at this
  exact this.mono fun r w' ⟨hr, hs⟩ => ⟨hr, hs.below⟩
end


set_option maxHeartbeats 1600000 in
set_option maxRecDepth 100000 in
theorem sizes_neg (n : Int) (hn : n < 0) (w : World) : Calls Try.prog 5 #[.int .i64 n] w fun r w' => r = .returned (.bool true) ∧ Below w.heap.size w w' := by
  have HLv := Lib.hid (lives_any w)
  have HNw := Lib.hid (fun W => ses_new n 0 (by omega) W)
  go_enter Try.func5, Try.ntmps5
  go_wp2_with fail
  refine HLv.out.mono ?_
  rintro r w1 ⟨rfl, h1⟩
  have H1 := Lib.hid h1
  clear h1
  go_wp2_with fail
  refine (HNw.out _).mono ?_
  rintro r w2 ⟨rfl, h2⟩
  have H2 := Lib.hid h2
  clear h2
  go_wp2_with fail
  have hc := z_len H2.out 0 (by omega)
  refine hc.mono ?_
  clear hc
  rintro r w' ⟨rfl, rfl⟩
  go_wp2_with fail
  have hc := z_load H2.out 0
  refine hc.mono ?_
  clear hc
  rintro r w' ⟨rfl, rfl⟩
  go_wp2_with fail
  refine (z_load H2.out _).mono ?_
  rintro r w' ⟨rfl, rfl⟩
  go_wp2_with fail
  have hc := z_store H2.out 0 (by omega)
  refine hc.mono ?_
  clear hc
  rintro r w3 ⟨rfl, h3⟩
  have H3 := Lib.hid h3
  clear h3 H2
  go_wp2_with fail
  refine (z_flush H3.out _ (by omega)).mono ?_
  rintro r w3 ⟨rfl, h3⟩
  clear H3
  have H3 := Lib.hid h3
  clear h3
  go_wp2_with fail
  have hc := z_flush H3.out 0 (by omega)
  refine hc.mono ?_
  clear hc
  rintro r w4 ⟨rfl, h4⟩
  have H4 := Lib.hid h4
  clear h4
  go_wp2
  go_ret
  exact ⟨rfl, H1.out.trans (H4.out.below.mono H1.out.size)⟩

set_option maxHeartbeats 1600000 in
set_option maxRecDepth 100000 in
theorem sizes_zero  (w : World) : Calls Try.prog 5 #[.int .i64 0] w fun r w' => r = .returned (.bool true) ∧ Below w.heap.size w w' := by
  have HLv := Lib.hid (lives_any w)
  have HNw := Lib.hid (fun W => ses_new 0 0 (by omega) W)
  go_enter Try.func5, Try.ntmps5
  go_wp2_with fail
  refine HLv.out.mono ?_
  rintro r w1 ⟨rfl, h1⟩
  have H1 := Lib.hid h1
  clear h1
  go_wp2_with fail
  refine (HNw.out _).mono ?_
  rintro r w2 ⟨rfl, h2⟩
  have H2 := Lib.hid h2
  clear h2
  go_wp2_with fail
  have hc := z_len H2.out 0 (by omega)
  refine hc.mono ?_
  clear hc
  rintro r w' ⟨rfl, rfl⟩
  go_wp2_with fail
  have hc := z_load H2.out 0
  refine hc.mono ?_
  clear hc
  rintro r w' ⟨rfl, rfl⟩
  go_wp2_with fail
  refine (z_load H2.out _).mono ?_
  rintro r w' ⟨rfl, rfl⟩
  go_wp2_with fail
  have hc := z_store H2.out 0 (by omega)
  refine hc.mono ?_
  clear hc
  rintro r w3 ⟨rfl, h3⟩
  have H3 := Lib.hid h3
  clear h3 H2
  go_wp2_with fail
  refine (z_flush H3.out _ (by omega)).mono ?_
  rintro r w3 ⟨rfl, h3⟩
  clear H3
  have H3 := Lib.hid h3
  clear h3
  go_wp2_with fail
  have hc := z_flush H3.out 0 (by omega)
  refine hc.mono ?_
  clear hc
  rintro r w4 ⟨rfl, h4⟩
  have H4 := Lib.hid h4
  clear h4
  go_wp2
  go_ret
  exact ⟨rfl, H1.out.trans (H4.out.below.mono H1.out.size)⟩

set_option maxHeartbeats 1600000 in
set_option maxRecDepth 100000 in
theorem sizes_small (m : Nat) (h0 : 0 < m) (hm : m ≤ 5000) (w : World) : Calls Try.prog 5 #[.int .i64 (m : Int)] w fun r w' => r = .returned (.bool true) ∧ Below w.heap.size w w' := by
  have HLv := Lib.hid (lives_any w)
  have HNw := Lib.hid (fun W => ses_new (m : Int) m (by omega) W)
  go_enter Try.func5, Try.ntmps5
  go_wp2_with fail
  refine HLv.out.mono ?_
  rintro r w1 ⟨rfl, h1⟩
  have H1 := Lib.hid h1
  clear h1
  go_wp2_with fail
  refine (HNw.out _).mono ?_
  rintro r w2 ⟨rfl, h2⟩
  have H2 := Lib.hid h2
  clear h2
  go_wp2_with fail
  have hc := z_len H2.out (m : Int) (by omega)
  refine hc.mono ?_
  clear hc
  rintro r w' ⟨rfl, rfl⟩
  go_wp2_with fail
  have hc := z_load H2.out (m : Int)
  refine hc.mono ?_
  clear hc
  rintro r w' ⟨rfl, rfl⟩
  go_wp2_with fail
  refine (z_load H2.out _).mono ?_
  rintro r w' ⟨rfl, rfl⟩
  go_wp2_with fail
  have hc := z_store H2.out (m : Int) (by omega)
  refine hc.mono ?_
  clear hc
  rintro r w3 ⟨rfl, h3⟩
  have H3 := Lib.hid h3
  clear h3 H2
  go_wp2_with fail
  refine (z_flush H3.out _ (by omega)).mono ?_
  rintro r w3 ⟨rfl, h3⟩
  clear H3
  have H3 := Lib.hid h3
  clear h3
  go_wp2_with fail
  have hc := z_flush0 H3.out (by omega)
  refine hc.mono ?_
  clear hc
  rintro r w4 ⟨rfl, h4⟩
  have H4 := Lib.hid h4
  clear h4
  go_wp2
  go_ret
  exact ⟨rfl, H1.out.trans (H4.out.mono H1.out.size)⟩

set_option maxHeartbeats 1600000 in
set_option maxRecDepth 100000 in
theorem sizes_mid (n : Int) (h1 : 5000 < n) (h2 : n < 4194304) (w : World) : Calls Try.prog 5 #[.int .i64 n] w fun r w' => r = .returned (.bool true) ∧ Below w.heap.size w w' := by
  have HLv := Lib.hid (lives_any w)
  have HNw := Lib.hid (fun W => ses_new 5000 5000 (by omega) W)
  go_enter Try.func5, Try.ntmps5
  go_wp2_with fail
  refine HLv.out.mono ?_
  rintro r w1 ⟨rfl, h1⟩
  have H1 := Lib.hid h1
  clear h1
  go_wp2_with fail
  refine (HNw.out _).mono ?_
  rintro r w2 ⟨rfl, h2⟩
  have H2 := Lib.hid h2
  clear h2
  go_wp2_with fail
  have hc := z_len H2.out 5000 (by omega)
  refine hc.mono ?_
  clear hc
  rintro r w' ⟨rfl, rfl⟩
  go_wp2_with fail
  have hc := z_load H2.out 5000
  refine hc.mono ?_
  clear hc
  rintro r w' ⟨rfl, rfl⟩
  go_wp2_with fail
  refine (z_load H2.out _).mono ?_
  rintro r w' ⟨rfl, rfl⟩
  go_wp2_with fail
  have hc := z_store H2.out 5000 (by omega)
  refine hc.mono ?_
  clear hc
  rintro r w3 ⟨rfl, h3⟩
  have H3 := Lib.hid h3
  clear h3 H2
  go_wp2_with fail
  refine (z_flush H3.out _ (by omega)).mono ?_
  rintro r w3 ⟨rfl, h3⟩
  clear H3
  have H3 := Lib.hid h3
  clear h3
  go_wp2_with fail
  have hc := z_flush0 H3.out (by omega)
  refine hc.mono ?_
  clear hc
  rintro r w4 ⟨rfl, h4⟩
  have H4 := Lib.hid h4
  clear h4
  go_wp2
  go_ret
  exact ⟨rfl, H1.out.trans (H4.out.mono H1.out.size)⟩

set_option maxHeartbeats 1600000 in
set_option maxRecDepth 100000 in
theorem sizes_most  (w : World) : Calls Try.prog 5 #[.int .i64 4194304] w fun r w' => r = .returned (.bool true) ∧ Below w.heap.size w w' := by
  have HLv := Lib.hid (lives_any w)
  have HNw := Lib.hid (fun W => ses_new 4194304 4194304 (by omega) W)
  go_enter Try.func5, Try.ntmps5
  go_wp2_with fail
  refine HLv.out.mono ?_
  rintro r w1 ⟨rfl, h1⟩
  have H1 := Lib.hid h1
  clear h1
  go_wp2_with fail
  refine (HNw.out _).mono ?_
  rintro r w2 ⟨rfl, h2⟩
  have H2 := Lib.hid h2
  clear h2
  go_wp2_with fail
  have hc := z_len H2.out 4194304 (by omega)
  refine hc.mono ?_
  clear hc
  rintro r w' ⟨rfl, rfl⟩
  go_wp2_with fail
  have hc := z_load H2.out 4194304
  refine hc.mono ?_
  clear hc
  rintro r w' ⟨rfl, rfl⟩
  go_wp2_with fail
  refine (z_load H2.out _).mono ?_
  rintro r w' ⟨rfl, rfl⟩
  go_wp2_with fail
  have hc := z_store H2.out 4194304 (by omega)
  refine hc.mono ?_
  clear hc
  rintro r w3 ⟨rfl, h3⟩
  have H3 := Lib.hid h3
  clear h3 H2
  go_wp2_with fail
  refine (z_flush H3.out _ (by omega)).mono ?_
  rintro r w3 ⟨rfl, h3⟩
  clear H3
  have H3 := Lib.hid h3
  clear h3
  go_wp2_with fail
  have hc := z_flush0 H3.out (by omega)
  refine hc.mono ?_
  clear hc
  rintro r w4 ⟨rfl, h4⟩
  have H4 := Lib.hid h4
  clear h4
  go_wp2
  go_ret
  exact ⟨rfl, H1.out.trans (H4.out.mono H1.out.size)⟩

set_option maxHeartbeats 1600000 in
set_option maxRecDepth 100000 in
theorem sizes_big (n : Int) (h1 : 4194304 < n) (w : World) : Calls Try.prog 5 #[.int .i64 n] w fun r w' => r = .returned (.bool true) ∧ Below w.heap.size w w' := by
  have HLv := Lib.hid (lives_any w)
  have HNw := Lib.hid (fun W => ses_new n 4194304 (by omega) W)
  go_enter Try.func5, Try.ntmps5
  go_wp2_with fail
  refine HLv.out.mono ?_
  rintro r w1 ⟨rfl, h1⟩
  have H1 := Lib.hid h1
  clear h1
  go_wp2_with fail
  refine (HNw.out _).mono ?_
  rintro r w2 ⟨rfl, h2⟩
  have H2 := Lib.hid h2
  clear h2
  go_wp2_with fail
  have hc := z_len H2.out 4194304 (by omega)
  refine hc.mono ?_
  clear hc
  rintro r w' ⟨rfl, rfl⟩
  go_wp2_with fail
  have hc := z_load H2.out 4194304
  refine hc.mono ?_
  clear hc
  rintro r w' ⟨rfl, rfl⟩
  go_wp2_with fail
  refine (z_load H2.out _).mono ?_
  rintro r w' ⟨rfl, rfl⟩
  go_wp2_with fail
  have hc := z_store H2.out 4194304 (by omega)
  refine hc.mono ?_
  clear hc
  rintro r w3 ⟨rfl, h3⟩
  have H3 := Lib.hid h3
  clear h3 H2
  go_wp2_with fail
  refine (z_flush H3.out _ (by omega)).mono ?_
  rintro r w3 ⟨rfl, h3⟩
  clear H3
  have H3 := Lib.hid h3
  clear h3
  go_wp2_with fail
  have hc := z_flush0 H3.out (by omega)
  refine hc.mono ?_
  clear hc
  rintro r w4 ⟨rfl, h4⟩
  have H4 := Lib.hid h4
  clear h4
  go_wp2
  go_ret
  exact ⟨rfl, H1.out.trans (H4.out.mono H1.out.size)⟩

theorem sizes_any (n : Int) (w : World) : Calls Try.prog 5 #[.int .i64 n] w fun r w' => r = .returned (.bool true) ∧ Below w.heap.size w w' := by
  rcases Int.lt_or_le n 0 with h | h
  · exact sizes_neg n h w
  · rcases Int.lt_or_le 4194304 n with h1 | h1
    · exact sizes_big n h1 w
    · by_cases h2 : n = 4194304
      · rw [h2]; exact sizes_most w
      · by_cases h3 : n = 0
        · rw [h3]; exact sizes_zero w
        · rcases Int.lt_or_le 5000 n with h4 | h4
          · exact sizes_mid n h4 (by omega) w
          · obtain ⟨m, rfl⟩ := Int.eq_ofNat_of_zero_le h
            exact sizes_small m (by omega) (by omega) w
end Pm

open Go.ChangeShapes Go.WideShapes Go.ChangeAt
theorem ownKnob_none : ownKnob Try.prog.godebug = none := by kernel_rfl

set_option maxRecDepth 100000 in
theorem sizes_lifted (os : Os) (started : os.Started) (H : Type) (enc : TypeId × Value → H) :
    ReturnsInHanded {} Try.checked os 5 .any (Rows.pmSizesSpec.pre6 enc Try.prog Try.f5 Rows.pmSizesRow.domain false) (Rows.pmSizesSpec.post enc Try.prog Try.f5 false true false false) := by
  refine returnsInHanded_of_change (C := Try.checked) ownKnob_none started (by kernel_rfl) Try.func5
    (ChangeSpec.witness6 (enc := enc) (C := Try.checked) false ⟨#[], #[.int .i64 0], []⟩ 8 (by kernel_rfl) (by kernel_rfl) (by kernel_rfl) (by kernel_rfl)) ?_
  intro W base args ds gs before hval0 hW _ _
  have hval : ∀ (j : Nat) t v, Try.f5.params[j]? = some t → args[j]? = some v → Value.okWide Try.prog W .any base t v := hval0
  have hW' := hW
  obtain ⟨p, q, hA0, hV, rfl, _, _⟩ := hW
  have hA : DataW.TrodAll enc Try.prog W 0 (fun _ => true) true Try.f5.params.toList args.toList ds p := hA0
  rw [Try.params5] at hA hval
  obtain ⟨v0, d0, hargs, rfl, h0⟩ := trodAll_one hA
  obtain rfl : args = #[v0] := by cases args; simp_all
  obtain ⟨rfl, rfl⟩ := trodVars_none hV
  obtain ⟨n, rfl, rfl, rfl, w0⟩ := open_int Try.underlying3 (hval 0 3 v0 rfl rfl) h0
  refine (Pm.sizes_any n W).mono fun e W' ⟨he, hb⟩ => ?_
  subst he
  refine ⟨_, rfl, _, _, _, [], [], [], hW', ?_, ?_, ?_, hb.frame _, fun h => by cases h⟩
  · exact trodAll_mk1 (shut_bool Try.underlying4 _)
  · exact trodAll_mk1 (shut_int Try.underlying3 w0)
  · rfl

/-- for every int PmSizes returns true -/
theorem sizes_holds : Rows.PmSizesSaid :=
  OpenClaim.holds_of_wide 5 Try.f5 rfl rfl rfl rfl rfl rfl rfl ⟨rfl, rfl, rfl, rfl, rfl⟩ rfl rfl rfl rfl rfl (by kernel_rfl) Try.func5 (by kernel_rfl)
    (of_decide_eq_true (by kernel_rfl)) (by unfold Func.isWrapper; first | (rw [if_pos (by decide +kernel)]; kernel_rfl) | (rw [if_neg (by decide +kernel)]; exact ⟨rfl, rfl⟩))
    (fun os started H enc _ => sizes_lifted os started H enc)
#print axioms sizes_holds
end Go.Proofs.Ytlcjnmoicjgaiaa
