/- The chapter's example, as the laws of layer 1 ask it. -/
import Derived.Test.YthfkbfbchoekjaaPmSes
namespace Go.Proofs.Ythfkbfbchoekjaa
open Go.RowKit Go.MapKept
namespace Pm

def LA0 : Abs := Abs.fresh 8
def LA1 : Abs := LA0.storeAt 0 5
def LA2 : Abs := LA1.storeAt 0 6
def LA3 : Abs := LA2.flushAt 0
def LA4 : Abs := LA3.fenceAt
theorem la_s0 : LA0.canStore 0 = true := by decide
theorem la_s1 : LA1.canStore 0 = true := by decide
theorem la_m2 : (if LA2.has 0 then LA2.may (0 : Int).toNat else []) = [0, 5, 6] := by decide
theorem la_l2 : (if LA2.has 0 then LA2.words[(0 : Int).toNat]?.getD 0 else 0) = 6 := by decide
theorem la_f2 : LA2.canFlush 0 = true := by decide
theorem la_d3 : (!LA3.down) = true := by decide
theorem la_m4 : (if LA4.has 0 then LA4.may (0 : Int).toNat else []) = [6] := by decide

theorem words_cell {B : Nat} {w : World} {g c n i : Nat} {l : List Int} (h : Words B w (.slice (some ⟨g, 0, none⟩) n c) l) (hi : i < l.length) : w.cell? ⟨g, i, none⟩ = some (.int .u64 l[i]) := by
  rcases h.2 with ⟨e, _⟩ | ⟨g', cap, cur, e, _, hb, _, _, hsz, ht⟩
  · cases e
  · injection e with e
    injection e with e
    injection e with e
    subst e
    rw [blk_cell hb]
    have := congrArg (·[i]?) ht
    simp only [Nat.mul_one, u64s] at this
    rw [List.getElem?_take, if_pos hi, List.getElem?_map, List.getElem?_eq_getElem hi] at this
    rw [← Array.getElem?_toList]
    exact this

set_option maxHeartbeats 1600000 in
set_option maxRecDepth 100000 in
theorem lives_any (w : World) : Calls Try.prog 17 #[] w fun r w' => r = .returned (.bool true) ∧ Below w.heap.size w w' := by
  have hn := ses_new 8 8 (by decide) w
  have HN := Lib.hid hn
  clear hn
  go_enter Try.func17, Try.ntmps17
  go_wp2_with fail
  refine HN.out.mono ?_
  rintro r w1 ⟨rfl, h1⟩
  have H1 := Lib.hid (show Ses w.heap.size w w1 (w.heap.size + 2) LA0 from h1)
  clear h1
  go_wp2_with fail
  have hc := ses_store H1.out 0 5 (by decide)
  rw [la_s0] at hc
  refine hc.mono ?_
  clear hc
  rintro r w2 ⟨rfl, h2⟩
  have H2 := Lib.hid (show Ses w.heap.size w w2 (w.heap.size + 2) LA1 from h2)
  clear h2
  go_wp2_with fail
  have hc := ses_store H2.out 0 6 (by decide)
  rw [la_s1] at hc
  refine hc.mono ?_
  clear hc
  rintro r w3 ⟨rfl, h3⟩
  have H3 := Lib.hid (show Ses w.heap.size w w3 (w.heap.size + 2) LA2 from h3)
  clear h3
  go_wp2_with fail
  have hc := ses_may H3.out 0
  rw [la_m2] at hc
  refine hc.mono ?_
  clear hc
  rintro r w4 ⟨v4, rfl, hw4, h4, _⟩
  obtain ⟨g4, c4, rfl⟩ := row_form hw4 (by decide)
  have H4 := Lib.hid h4
  clear h4 hw4
  go_wp2_with fail
  have hc := ses_load H4.out 0
  rw [la_l2] at hc
  refine hc.mono ?_
  clear hc
  rintro r w5 ⟨rfl, rfl⟩
  go_wp2_with fail
  have hc := ses_flush H4.out 0 (by decide)
  rw [la_f2] at hc
  refine hc.mono ?_
  clear hc
  rintro r w6 ⟨rfl, h6⟩
  have H6 := Lib.hid (show Ses w.heap.size w w6 (w.heap.size + 2) LA3 from h6)
  clear h6
  go_wp2_with fail
  have hc := ses_fence H6.out (by decide)
  rw [la_d3] at hc
  refine hc.mono ?_
  clear hc
  rintro r w7 ⟨rfl, h7⟩
  have H7 := Lib.hid (show Ses w.heap.size w w7 (w.heap.size + 2) LA4 from h7)
  clear h7
  go_wp2_with fail
  have hc := ses_may H7.out 0
  rw [la_m4] at hc
  refine hc.mono ?_
  clear hc
  rintro r w8 ⟨v8, rfl, hw8, h8, _⟩
  obtain ⟨g8, c8, rfl⟩ := row_form hw8 (by decide)
  have H8 := Lib.hid h8
  clear h8 hw8
  go_wp2_with fail
  have hc := ses_may H8.out 0
  rw [la_m4] at hc
  refine hc.mono ?_
  clear hc
  rintro r w9 ⟨v9, rfl, hw9, h9, _⟩
  obtain ⟨g9, c9, rfl⟩ := row_form hw9 (by decide)
  have k9 := words_cell (i := 0) hw9 (by decide)
  simp only [List.getElem_cons_zero] at k9
  have H9 := Lib.hid h9
  clear h9 hw9
  go_wp2
  go_ret
  exact ⟨rfl, H9.out.below⟩
end Pm
end Go.Proofs.Ythfkbfbchoekjaa
