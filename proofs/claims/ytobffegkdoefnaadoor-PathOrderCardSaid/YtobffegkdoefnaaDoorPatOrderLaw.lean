/- The law of which path stands ahead. -/
import Derived.Test.YtobffegkdoefnaaDoorPatLives
import Derived.Test.YtobffegkdoefnaaDoorPatPar
namespace Go.Proofs.YtobffegkdoefnaaDoor
open Go.RowKit Go.MapKept Go.Shelf
namespace Pat

set_option maxRecDepth 100000 in
set_option maxHeartbeats 2000000 in
theorem order_law (w : World) (A B : Option Addr) (c d : Nat) (x y : List ByteArray) (hx : Txs w A x) (hy : Txs w B y) :
    Calls Tryd.prog 7 #[.slice A x.length c, .slice B y.length d] w fun e w' => e = .returned (.bool true) ∧ Below w.heap.size w w' := by
  have HX := Lib.hid hx
  have HY := Lib.hid hy
  have HL := Lib.hid lives_any
  have h3 : (bef x y = true ∧ bef y x = false) ∨ (bef x y = false ∧ bef y x = true) ∨ (bef x y = false ∧ bef y x = false ∧ decide (x = y) = true) := by
    by_cases h : bef x y = true
    · exact .inl ⟨h, bef_asym h⟩
    · have h := Bool.eq_false_iff.2 h
      by_cases h' : bef y x = true
      · exact .inr (.inl ⟨h, h'⟩)
      · have h' := Bool.eq_false_iff.2 h'
        exact .inr (.inr ⟨h, h', decide_eq_true (bef_one h h')⟩)
  have H3 := Lib.hid h3
  clear hx hy h3
  go_enter Tryd.func7, Tryd.ntmps7
  go_wp2_with fail
  refine (HL.out _).mono ?_
  rintro e w1 ⟨rfl, hb⟩
  have HX1 := Lib.hid (HX.out.keep hb)
  have HY1 := Lib.hid (HY.out.keep hb)
  have HB1 := Lib.hid hb
  clear hb
  go_wp2_with fail
  refine (few_any w1 A c x HX1.out).mono ?_
  rintro e w2 ⟨rfl, rfl⟩
  have fin : ∀ (a : World), Below w.heap.size w a → Calls Tryd.prog 8 #[] a fun e w' => e = .returned (.bool true) ∧ Below w.heap.size w w' :=
    fun a ha => (HL.out a).mono fun e w' h => ⟨h.1, ha.trans (h.2.mono ha.size)⟩
  have FIN := Lib.hid fin
  clear fin
  cases hfx : few x with
  | false =>
    go_wp2_with fail
    refine (FIN.out _ HB1.out).mono ?_
    rintro e w3 ⟨rfl, hb⟩
    have HB := Lib.hid hb
    clear hb
    go_wp2
    go_ret
    exact ⟨rfl, HB.out⟩
  | true =>
    go_wp2_with fail
    refine (few_any w2 B d y HY1.out).mono ?_
    rintro e w3 ⟨rfl, rfl⟩
    cases hfy : few y with
    | false =>
      go_wp2_with fail
      refine (FIN.out _ HB1.out).mono ?_
      rintro e w4 ⟨rfl, hb⟩
      have HB := Lib.hid hb
      clear hb
      go_wp2
      go_ret
      exact ⟨rfl, HB.out⟩
    | true =>
      go_wp2_with fail
      refine (before_any w3 A B c d x y HX1.out HY1.out).mono ?_
      rintro e w4 ⟨rfl, rfl⟩
      go_wp2_with fail
      refine (before_any w4 B A d c y x HY1.out HX1.out).mono ?_
      rintro e w5 ⟨rfl, rfl⟩
      go_wp2_with fail
      refine (refBefore_any w5 A B c d x y HX1.out HY1.out).mono ?_
      rintro e w6 ⟨rfl, n6, hw6⟩
      have HX6 := Lib.hid (show Txs w6 A x by rw [hw6]; exact HX1.out.drewN n6)
      have HY6 := Lib.hid (show Txs w6 B y by rw [hw6]; exact HY1.out.drewN n6)
      have HB6 := Lib.hid (show Below w.heap.size w w6 by rw [hw6]; exact below_drewN HB1.out n6)
      clear hw6
      have hpp : ((bef x y) != (bef x y)) = false := by simp
      have hqq : ((bef y x) != (bef y x)) = false := by simp
      have H3' := H3.out
      go_wp2_with fail
      refine (refBefore_any w6 B A d c y x HY6.out HX6.out).mono ?_
      rintro e w7 ⟨rfl, n7, hw7⟩
      have HX7 := Lib.hid (show Txs w7 A x by rw [hw7]; exact HX6.out.drewN n7)
      have HY7 := Lib.hid (show Txs w7 B y by rw [hw7]; exact HY6.out.drewN n7)
      have HB7 := Lib.hid (show Below w.heap.size w w7 by rw [hw7]; exact below_drewN HB6.out n7)
      clear hw7
      generalize bef x y = p at *
      generalize bef y x = q at *
      rcases H3' with ⟨rfl, rfl⟩ | ⟨rfl, rfl⟩ | ⟨rfl, rfl, h4⟩
      · go_wp2
        go_ret
        exact ⟨rfl, HB7.out⟩
      · go_wp2
        go_ret
        exact ⟨rfl, HB7.out⟩
      · have H4 := Lib.hid h4
        clear h4
        go_wp2_with fail
        refine (same_any w7 A B c d x y HX7.out HY7.out).mono ?_
        rintro e w8 ⟨rfl, n8, hw8⟩
        have HB8 := Lib.hid (show Below w.heap.size w w8 by rw [hw8]; exact below_drewN HB7.out n8)
        rw [H4.out]
        clear hw8
        go_wp2
        go_ret
        exact ⟨rfl, HB8.out⟩
end Pat
end Go.Proofs.YtobffegkdoefnaaDoor
