/- The chapter's example. -/
import Derived.Test.YtobffegkdoefnaaDoorPatSplitP
import Derived.Test.YtobffegkdoefnaaDoorEntLives
namespace Go.Proofs.YtobffegkdoefnaaDoor
open Go.RowKit Go.MapKept Go.Shelf
namespace Pat

theorem ex_yes : spl ⟨#[47, 97, 47, 98]⟩ = some [⟨#[97]⟩, ⟨#[98]⟩] := by decide +kernel
theorem ex_no : spl ⟨#[47, 97, 47]⟩ = none := by decide +kernel
theorem split_yes (w : World) : Calls Tryd.prog 13 #[.string ⟨#[47, 97, 47, 98]⟩] w fun e w' => ∃ A c, e = .returned (.tuple #[.slice A 2 c, .int .i64 0]) ∧ Txs w' A [⟨#[97]⟩, ⟨#[98]⟩] ∧ Below w.heap.size w w' :=
  (split_any w _ (by decide)).mono fun e w' ⟨hb, h⟩ => by
    rcases h with ⟨l, A, c, hs, he, _, ht⟩ | ⟨hs, _⟩
    · rw [ex_yes] at hs
      injection hs with hs
      subst hs
      exact ⟨A, c, he, ht, hb⟩
    · rw [ex_yes] at hs
      cases hs
theorem split_no (w : World) : Calls Tryd.prog 13 #[.string ⟨#[47, 97, 47]⟩] w fun e w' => e = .returned (.tuple #[.slice none 0 0, .int .i64 3]) ∧ Below w.heap.size w w' :=
  (split_any w _ (by decide)).mono fun e w' ⟨hb, h⟩ => by
    rcases h with ⟨l, A, c, hs, _⟩ | ⟨_, he⟩
    · rw [ex_no] at hs
      cases hs
    · exact ⟨he, hb⟩

set_option maxRecDepth 100000 in
set_option maxHeartbeats 1000000 in
theorem lives_any (w : World) : Calls Tryd.prog 8 #[] w fun e w' => e = .returned (.bool true) ∧ Below w.heap.size w w' := by
  have H1 := Lib.hid split_yes
  have H2 := Lib.hid split_no
  have H3 := Lib.hid Ent.lives_any
  go_enter Tryd.func8, Tryd.ntmps8
  go_wp2_with fail
  refine (H1.out _).mono ?_
  rintro e w1 ⟨A, c, rfl, ht, hb⟩
  have HT := Lib.hid ht
  have HB := Lib.hid hb
  clear ht hb
  go_wp2_with fail
  refine (H2.out _).mono ?_
  rintro e w2 ⟨rfl, hb2⟩
  have HT2 := Lib.hid (HT.out.keep hb2)
  have HB2 := Lib.hid (HB.out.trans (hb2.mono HB.out.size))
  clear hb2
  go_wp2_with fail
  refine (H3.out _).mono ?_
  rintro e w3 ⟨rfl, hb3⟩
  have hb3' := HB2.out.trans (hb3.mono HB2.out.size)
  have HB3 := Lib.hid hb3'
  obtain ⟨b, o, rfl, _, hc0⟩ := (HT2.out.keep hb3).at' 0 (by decide)
  obtain ⟨b', o', e, _, hc1⟩ := (HT2.out.keep hb3).at' 1 (by decide)
  injection e with e
  injection e with e1 e2
  subst e1 e2
  simp only [List.getElem_cons_zero, List.getElem_cons_succ, Nat.add_zero] at hc0 hc1
  clear hb3 hb3'
  go_wp2
  go_ret
  exact ⟨rfl, HB3.out⟩
end Pat
end Go.Proofs.YtobffegkdoefnaaDoor
