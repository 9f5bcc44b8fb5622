/- Texts laid together: ModNamesLaw, ModCard. -/
import Derived.Test.YtkhkcfbacnkcnaaDoorMs6
import Derived.OneCell
import Derived.Test.YtkhkcfbacnkcnaaDoorMs1
import Derived.Test.YtkhkcfbacnkcnaaDoorMs2
import Derived.Test.YtkhkcfbacnkcnaaDoorMs3
import Derived.Test.YtkhkcfbacnkcnaaDoorMs4
import Derived.Test.YtkhkcfbacnkcnaaDoorMs5
/- Law 14's ModelNames. -/
namespace Go.Proofs.YtkhkcfbacnkcnaaDoor
open Go.RowKit Go.MapKept
namespace Mod

/-- the kinds' names -/
def nms : List ByteArray := [⟨#[99, 114, 101, 97, 116, 101]⟩, ⟨#[109, 107, 100, 105, 114]⟩, ⟨#[119, 114, 105, 116, 101]⟩, ⟨#[116, 114, 117, 110, 99, 97, 116, 101]⟩, ⟨#[117, 110, 108, 105, 110, 107]⟩, ⟨#[114, 109, 100, 105, 114]⟩, ⟨#[114, 101, 97, 100]⟩, ⟨#[108, 105, 115, 116]⟩]
/-- a kind's name, "" of none -/
def nmT (k : Int) : ByteArray := if k = 0 then ⟨#[99, 114, 101, 97, 116, 101]⟩ else if k = 1 then ⟨#[109, 107, 100, 105, 114]⟩ else if k = 2 then ⟨#[119, 114, 105, 116, 101]⟩ else if k = 3 then ⟨#[116, 114, 117, 110, 99, 97, 116, 101]⟩ else if k = 4 then ⟨#[117, 110, 108, 105, 110, 107]⟩ else if k = 5 then ⟨#[114, 109, 100, 105, 114]⟩ else if k = 6 then ⟨#[114, 101, 97, 100]⟩ else if k = 7 then ⟨#[108, 105, 115, 116]⟩ else ⟨#[]⟩
/-- the table of the names, as it lies in its block -/
def Nms (W : World) : Prop := ∀ j, j < 8 → W.cell? ⟨0, j, none⟩ = some (.string (nms.getD j ⟨#[]⟩))
theorem Nms.lt {w : World} (h : Nms w) : 0 < w.heap.size := by
  have := h 0 (by decide)
  rcases Nat.lt_or_ge 0 w.heap.size with h1 | h1
  · exact h1
  · simp [World.cell?, Array.getElem?_eq_none h1] at this
theorem Nms.keep {w w' : World} (h : Nms w) (hb : Below w.heap.size w w') : Nms w' := fun j hj => (hb.cell (p := ⟨0, j, none⟩) h.lt).trans (h j hj)
theorem nmT_at (j : Nat) (hj : j < 8) : nmT (j : Int) = nms.getD j ⟨#[]⟩ := by
  match j, hj with
  | 0, _ => rfl
  | 1, _ => rfl
  | 2, _ => rfl
  | 3, _ => rfl
  | 4, _ => rfl
  | 5, _ => rfl
  | 6, _ => rfl
  | 7, _ => rfl
theorem nmT_no (k : Int) (h : ¬ (0 ≤ k ∧ k < 8)) : nmT k = ⟨#[]⟩ := by
  unfold nmT
  repeat (first | rw [if_neg (by omega)])
set_option maxRecDepth 100000 in
theorem name_any (w : World) (k : Int) (hT : Nms w) : Calls Tryd.prog 8 #[.int .i64 k] w fun e w' => e = .returned (.string (nmT k)) ∧ w' = w := by
  by_cases hk : 0 ≤ k ∧ k < 8
  · obtain ⟨j, rfl⟩ := Int.eq_ofNat_of_zero_le hk.1
    have hj : j < 8 := by omega
    have hc := hT j hj
    rw [nmT_at j hj]
    have hlt := hT.lt
    generalize nms.getD j ⟨#[]⟩ = s at *
    have h1 : ((j : Int) < 0) = False := eq_false (by omega)
    have h2 : (8 ≤ (j : Int)) = False := eq_false (by omega)
    have h3 : (0 : Int) ≤ (j : Int) := by omega
    have h4 : (j : Int) < 8 := by omega
    clear hk hT
    go_enter Tryd.func8, Tryd.ntmps8
    go_wp2
    go_ret
    exact ⟨rfl, rfl⟩
  · rw [nmT_no k hk]
    clear hT
    by_cases h0 : k < 0
    · have h1 : (k < 0) = True := eq_true h0
      clear hk h0
      go_enter Tryd.func8, Tryd.ntmps8
      go_wp2
      go_ret
      exact ⟨rfl, rfl⟩
    · have h1 : (k < 0) = False := eq_false h0
      have h2 : (8 ≤ k) = True := eq_true (by omega)
      clear hk h0
      go_enter Tryd.func8, Tryd.ntmps8
      go_wp2
      go_ret
      exact ⟨rfl, rfl⟩
set_option maxRecDepth 100000 in
theorem refName_any (w : World) (k : Int) : Calls Tryd.prog 9 #[.int .i64 k] w fun e w' => e = .returned (.string (nmT k)) ∧ w' = w := by
  go_enter Tryd.func9, Tryd.ntmps9
  by_cases h0 : k = 0
  · subst h0
    go_wp2
    go_ret
    exact ⟨rfl, rfl⟩
  have e0 : (k == 0) = false := beq_eq_false_iff_ne.2 h0
  by_cases h1 : k = 1
  · subst h1
    go_wp2
    go_ret
    exact ⟨rfl, rfl⟩
  have e1 : (k == 1) = false := beq_eq_false_iff_ne.2 h1
  by_cases h2 : k = 2
  · subst h2
    go_wp2
    go_ret
    exact ⟨rfl, rfl⟩
  have e2 : (k == 2) = false := beq_eq_false_iff_ne.2 h2
  by_cases h3 : k = 3
  · subst h3
    go_wp2
    go_ret
    exact ⟨rfl, rfl⟩
  have e3 : (k == 3) = false := beq_eq_false_iff_ne.2 h3
  by_cases h4 : k = 4
  · subst h4
    go_wp2
    go_ret
    exact ⟨rfl, rfl⟩
  have e4 : (k == 4) = false := beq_eq_false_iff_ne.2 h4
  by_cases h5 : k = 5
  · subst h5
    go_wp2
    go_ret
    exact ⟨rfl, rfl⟩
  have e5 : (k == 5) = false := beq_eq_false_iff_ne.2 h5
  by_cases h6 : k = 6
  · subst h6
    go_wp2
    go_ret
    exact ⟨rfl, rfl⟩
  have e6 : (k == 6) = false := beq_eq_false_iff_ne.2 h6
  by_cases h7 : k = 7
  · subst h7
    go_wp2
    go_ret
    exact ⟨rfl, rfl⟩
  have e7 : (k == 7) = false := beq_eq_false_iff_ne.2 h7
  have HN := Lib.hid (nmT_no k (by omega))
  clear h0 h1 h2 h3 h4 h5 h6 h7
  go_wp2
  go_ret
  exact ⟨by rw [HN.out]; rfl, rfl⟩
set_option maxRecDepth 100000 in
theorem changes_any (w : World) (k : Int) : Calls Tryd.prog 10 #[.int .i64 k] w fun e w' => e = .returned (.bool (decide (0 ≤ k) && decide (k ≤ 5))) ∧ w' = w := by
  go_enter Tryd.func10, Tryd.ntmps10
  by_cases h0 : 0 ≤ k
  · have h1 : (0 ≤ k) = True := eq_true h0
    have HD := Lib.hid (show decide (0 ≤ k) = true from decide_eq_true h0)
    clear h0
    go_wp2
    go_ret
    exact ⟨by rw [HD.out]; rfl, rfl⟩
  · have h1 : (0 ≤ k) = False := eq_false h0
    have HD := Lib.hid (show decide (0 ≤ k) = false from decide_eq_false h0)
    clear h0
    go_wp2
    go_ret
    exact ⟨by rw [HD.out]; rfl, rfl⟩

set_option maxRecDepth 100000 in
set_option maxHeartbeats 1000000 in
theorem names_law (w : World) (k : Int) (hT : Nms w) : Calls Tryd.prog 4 #[.int .i64 k] w fun e w' => e = .returned (.bool true) ∧ Below w.heap.size w w' := by
  have HT := Lib.hid hT
  clear hT
  go_enter Tryd.func4, Tryd.ntmps4
  go_wp2_with fail
  refine (lives_any w).mono ?_
  rintro e w1 ⟨rfl, hb1⟩
  have HB := Lib.hid hb1
  have HT1 := Lib.hid (HT.out.keep hb1)
  clear hb1
  have HC := Lib.hid (changes_any w1 k)
  have HN := Lib.hid (name_any w1 k HT1.out)
  have HR := Lib.hid (refName_any w1 k)
  generalize nmT k = s at *
  go_wp2_with fail
  refine HN.out.mono ?_
  rintro e w2 ⟨rfl, rfl⟩
  go_wp2_with fail
  refine HR.out.mono ?_
  rintro e w2 ⟨rfl, rfl⟩
  by_cases h0 : 0 ≤ k
  · have h1 : (0 ≤ k) = True := eq_true h0
    rw [show decide (0 ≤ k) = true from decide_eq_true h0, Bool.true_and] at HC
    clear h0
    by_cases h5 : k ≤ 5
    · have h2 : (k ≤ 5) = True := eq_true h5
      rw [show decide (k ≤ 5) = true from decide_eq_true h5] at HC
      clear h5
      go_wp2_with fail
      refine HC.out.mono ?_
      rintro e w2 ⟨rfl, rfl⟩
      go_wp2
      go_ret
      exact ⟨rfl, HB.out⟩
    · have h2 : (k ≤ 5) = False := eq_false h5
      rw [show decide (k ≤ 5) = false from decide_eq_false h5] at HC
      clear h5
      go_wp2_with fail
      refine HC.out.mono ?_
      rintro e w2 ⟨rfl, rfl⟩
      go_wp2
      go_ret
      exact ⟨rfl, HB.out⟩
  · have h1 : (0 ≤ k) = False := eq_false h0
    rw [show decide (0 ≤ k) = false from decide_eq_false h0, Bool.false_and] at HC
    clear h0
    go_wp2_with fail
    refine HC.out.mono ?_
    rintro e w2 ⟨rfl, rfl⟩
    go_wp2
    go_ret
    exact ⟨rfl, HB.out⟩
end Mod
end Go.Proofs.YtkhkcfbacnkcnaaDoor
/- What ModelNames' condition gives: the table of the kinds' names as it lies; a start that meets it. -/
namespace Go.Proofs.YtkhkcfbacnkcnaaDoor
open Go.RowKit Go.MapKept Go.ChangeShapes Go.WideShapes Go.ChangeAt Go.Deep

abbrev lstN : List (String × DataW Unit) := [("unicode/utf8.acceptRanges", Rows.laid_unicode_utf8_acceptRanges), ("cantle/model.names", Rows.laid_cantle_model_names), ("unicode/utf8.first", Rows.laid_unicode_utf8_first)]
/-- a start with the three tables meets the condition -/
theorem door_metN (os : Os) (args : Array Value) : laidMetH Tryd.prog lstN ((World.laidAll Tryd.prog os lstN).forCall (fun _ _ => 0) ⟨#[], args, []⟩).memory := by
  rw [MakeChecks.laidMetH_plain _ _ _ (by kernel_rfl)]
  exact laidMet_laidAll _ (by kernel_rfl) (by kernel_rfl)
namespace Mod
theorem nms_global : Tryd.prog.globalNamed "cantle/model.names" = some 0 := by kernel_rfl
theorem nms_type : (Tryd.prog.globals[0]?).map (·.type) = some 42 := by kernel_rfl
theorem nms_cells : Tryd.prog.cellsOf 9 = 1 := by kernel_rfl
theorem nms_datum : (Rows.laid_cantle_model_names : DataW Unit) = .agg (nms.map fun s => .lit (.string s.data.toList)) := rfl
theorem nms_len : nms.length = 8 := rfl
/-- what the condition gives: the table's cells -/
theorem nms_of_laid {W : World} (h : laidMetH Tryd.prog lstN W) : Nms W := by
  rw [MakeChecks.laidMetH_plain _ _ _ (by kernel_rfl)] at h
  obtain ⟨ps, ⟨_, _, _, _, _, _, _, _, _, _, ⟨g0, t0, cs0, f0, p0, q0, hg0, ht0, hv0, hd0, _⟩, _⟩, _, _⟩ := h
  obtain rfl := Option.some.inj (nms_global.symm.trans hg0)
  obtain rfl := Option.some.inj (nms_type.symm.trans ht0)
  obtain ⟨xs, m1, rfl, hx1, hlen, hn, hel⟩ := DataW.trod_array Tryd.underlying42 hd0
  rw [nms_datum] at hx1
  injection hx1 with hx1 _
  injection hx1 with hx1
  intro j hj
  rw [World.var?_cell hg0 hv0 j]
  have hj' : j < xs.length := by omega
  have he := hel j hj
  rw [List.getElem?_eq_getElem hj', nms_cells, Nat.mul_one] at he
  obtain ⟨s, e1, e2, _⟩ := DataW.trod_string Tryd.underlying9 he
  have hk := congrArg (·[j]?) hx1
  have hjd : j < nms.length := by rw [nms_len]; exact hj
  simp only [List.getElem?_map, List.getElem?_eq_getElem hj', List.getElem?_eq_getElem hjd, Option.map_some, e2, Option.some.injEq, DataW.lit.injEq, Lit.string.injEq] at hk
  have hc := congrArg (·[0]?) e1
  simp only [List.getElem?_take, List.getElem?_drop, Nat.add_zero, Nat.lt_one_iff, if_true, List.getElem?_cons_zero] at hc
  rw [Array.getElem?_toList] at hc
  have hs : s = nms[j] := by
    apply ByteArray.ext
    exact Array.toList_inj.1 hk.symm
  rw [hc, hs, List.getD_eq_getElem?_getD, List.getElem?_eq_getElem hjd]
  rfl
end Mod
end Go.Proofs.YtkhkcfbacnkcnaaDoor
