/- BitmapPlays holds: for every input the law returns true, and its arguments read as they did. The condition: the library's table math/bits.deBruijn64tab reads as its initialiser lays it, which the card ties to the program's text. -/
import Derived.Test.YthfnbboambpdgaaDoorBmPlays
import Derived.Test.YthfnbboambpdgaaDoorBmCard
import Derived.SevenTiedAt
namespace Go.Proofs.YthfnbboambpdgaaDoor
open Go.ChangeShapes Go.WideShapes Go.ChangeAt Go.RowKit Go.Deep

namespace Bm
section
variable {H : Type} {enc : TypeId × Value → H} {W : World} {fuel : Nat} {sp : Nat → Bool} {held : Bool}
theorem cells_act : Tryd.prog.cellsOf 31 = 4 := by kernel_rfl

/-- an act's four cells -/
theorem open_act {cs : List Value} {x : DataW H × List MemPlace} (h : DataW.trod enc Tryd.prog W 0 sp held fuel 31 cs = some x) :
    ∃ v : ActV, cs = [.int .u8 (v.k : Int), .int .i64 v.a, .int .i64 v.b, .slice v.c v.l.length v.cap] ∧ v.k < 256 ∧ (-9223372036854775808 ≤ v.a ∧ v.a ≤ 9223372036854775807) ∧ (-9223372036854775808 ≤ v.b ∧ v.b ≤ 9223372036854775807) ∧ Pack.Nts W v.c v.l := by
  obtain ⟨ys, n, _, _, hlen, hyl, hf⟩ := DataW.trod_struct Tryd.underlying31 h
  rw [cells_act] at hlen
  match cs, hlen with
  | [c0, c1, c2, c3], _ =>
    have g0 : DataW.trod enc Tryd.prog W 0 sp held n 5 [c0] = ys[0]? := hf 0 _ rfl
    have g1 : DataW.trod enc Tryd.prog W 0 sp held n 3 [c1] = ys[1]? := hf 1 _ rfl
    have g2 : DataW.trod enc Tryd.prog W 0 sp held n 3 [c2] = ys[2]? := hf 2 _ rfl
    have g3 : DataW.trod enc Tryd.prog W 0 sp held n 29 [c3] = ys[3]? := hf 3 _ rfl
    have hy : ys.length = 4 := hyl
    rw [List.getElem?_eq_getElem (by omega)] at g0 g1 g2 g3
    obtain ⟨k, e0, _, w0⟩ := DataW.trod_int Tryd.underlying5 g0
    obtain ⟨a, e1, _, w1⟩ := DataW.trod_int Tryd.underlying3 g1
    obtain ⟨b, e2, _, w2⟩ := DataW.trod_int Tryd.underlying3 g2
    obtain ⟨C, l, c, e3, hn⟩ := Pack.open_ints g3
    simp at e0 e1 e2
    subst e0 e1 e2 e3
    have hb := bounds_u8 w0
    obtain ⟨q, rfl⟩ := Int.eq_ofNat_of_zero_le hb.1
    exact ⟨⟨q, a, b, l, C, c⟩, rfl, by show q < 256; omega, Pack.i64_bounds w1, Pack.i64_bounds w2, hn⟩

theorem open_acts {v : Value} {x : DataW H × List MemPlace} (h : DataW.trod enc Tryd.prog W 0 sp held fuel 22 [v] = some x) : ∃ A n c F, v = .slice A n c ∧ Acts W A n F := by
  rcases open_slice Tryd.underlying22 h with ⟨hcs, _⟩ | ⟨a, len, cap, m, n, D, Pl, hcs, _, hl, hm, hmm, hx, hi⟩
  · simp at hcs
    exact ⟨none, 0, 0, fun _ => ⟨0, 0, 0, [], none, 0⟩, hcs, by omega, fun j hj => absurd hj (by omega), fun j hj => absurd hj (by omega), fun j hj => absurd hj (by omega)⟩
  · simp at hcs
    have hlen : len ≤ 9223372036854775807 := by unfold maxLen at hm; omega
    have hjm : ∀ i, i < len → i < m := fun i hi => by rw [hmm]; split <;> omega
    have one : ∀ i, ∃ v : ActV, i < len → (W.cell? (a.add (i * 4)) = some (.int .u8 (v.k : Int)) ∧ W.cell? ((a.add (i * 4)).add 1) = some (.int .i64 v.a) ∧ W.cell? ((a.add (i * 4)).add 2) = some (.int .i64 v.b) ∧ W.cell? ((a.add (i * 4)).add 3) = some (.slice v.c v.l.length v.cap) ∧ (v.k < 256 ∧ (-9223372036854775808 ≤ v.a ∧ v.a ≤ 9223372036854775807) ∧ (-9223372036854775808 ≤ v.b ∧ v.b ≤ 9223372036854775807)) ∧ Pack.Nts W v.c v.l) := fun i => by
      by_cases hil : i < len
      · obtain ⟨cs', hc, ht⟩ := hi i (hjm i hil)
        rw [cells_act] at hc
        obtain ⟨v, rfl, h0, h1, h2, h3⟩ := open_act ht
        obtain ⟨_, _, hat⟩ := World.cells?_some hc
        have a0 := hat 0 (by omega)
        have a1 := hat 1 (by omega)
        have a2 := hat 2 (by omega)
        have a3 := hat 3 (by omega)
        simp only [List.getElem?_cons_zero, List.getElem?_cons_succ] at a0 a1 a2 a3
        exact ⟨v, fun _ => ⟨by simpa [Addr.add] using a0, a1, a2, a3, ⟨h0, h1, h2⟩, h3⟩⟩
      · exact ⟨⟨0, 0, 0, [], none, 0⟩, fun h => absurd h hil⟩
    obtain ⟨F, hF⟩ := Classical.skolem.1 one
    refine ⟨some a, len, cap, F, hcs, hlen, fun i hil => ?_, fun i hil => (hF i hil).2.2.2.2.2, fun i hil => (hF i hil).2.2.2.2.1⟩
    have hc0 := (hF 0 (by omega)).1
    obtain ⟨b, o, spot⟩ := a
    have hspot : spot = none := by simpa [Addr.add] using World.cell?_spot hc0
    subst hspot
    obtain ⟨a0, a1, a2, a3, _, _⟩ := hF i hil
    simp only [Go.WideShapes.add_plain] at a0 a1 a2 a3
    exact ⟨b, o, rfl, Pack.cell_lt a0, a0, a1, a2, a3⟩
end
end Bm

set_option maxRecDepth 100000 in
theorem plays_lifted (os : Os) (started : os.Started) (H : Type) (enc : TypeId × Value → H) :
    ReturnsInHanded {} Tryd.checked os 3 .any (fun w args => (Rows.bitmapPlaysSpec.pre enc Tryd.prog Tryd.f3 [] false w args ∧ laidMetH Tryd.prog lst w) ∧ sizedMet enc Tryd.prog Tryd.f3 (OpenSpec.ofChange Rows.bitmapPlaysSpec) false w args)
      (Rows.bitmapPlaysSpec.post enc Tryd.prog Tryd.f3 false true false false) := by
  refine returnsInHanded_of_change_and (C := Tryd.checked) (X := fun w _ => laidMetH Tryd.prog lst w) (fun _ _ _ hh h => h.of_heap hh) ownKnob_none started (by kernel_rfl) Tryd.func3
    (ChangeSpec.witness_shaped (enc := enc) (C := Tryd.checked) (os := os) (X := fun w _ => laidMetH Tryd.prog lst w) false (World.doorLaid Tryd.prog 14 os) #[.int .i64 0, .slice none 0 0] 8 rfl (World.shaped_of_RefB (by kernel_rfl) (by kernel_rfl)) (by kernel_rfl) (by kernel_rfl) (by kernel_rfl) (door_met os _)) ?_
  intro W base args ds gs before hval0 hW _ _ hL _
  have hval : ∀ (j : Nat) t v, Tryd.f3.params[j]? = some t → args[j]? = some v → Value.okWide Tryd.prog W .any base t v := hval0
  have hW' := hW
  obtain ⟨p, q, hA0, hV, rfl, _, _⟩ := hW
  have hA : DataW.TrodAll enc Tryd.prog W 0 (fun _ => true) true Tryd.f3.params.toList args.toList ds p := hA0
  rw [Tryd.params3] at hA hval
  obtain ⟨v0, v1, d0, d1, p0, p1, hargs, rfl, rfl, h0, h1⟩ := trodAll_two hA
  obtain rfl : args = #[v0, v1] := by cases args; simp_all
  obtain ⟨rfl, rfl⟩ := trodVars_none hV
  obtain ⟨a0, rfl, rfl, rfl, w0⟩ := open_int Tryd.underlying3 (hval 0 3 v0 rfl rfl) h0
  obtain ⟨A1, n1, c1, rfl⟩ := okWide_slice Tryd.underlying22 (hval 1 22 v1 rfl rfl)
  have k1 := h1
  have lt1 : ∀ x ∈ p1, x.block < W.heap.size := by obtain ⟨m, hm⟩ := k1; exact DataW.trod_lt m _ _ _ hm
  obtain ⟨fuel, hf⟩ := h1
  obtain ⟨A, n, c, F, e, hx⟩ := Bm.open_acts hf
  injection e with e1 e2 e3
  subst e1 e2 e3
  refine (Bm.plays_law a0 A1 c1 n1 F hx (tab_of_laid hL)).mono fun e W' ⟨he, hbel⟩ => ?_
  subst he
  refine ⟨_, rfl, _, _, _, [], p1, [], hW', ?_, ?_, ?_, hbel.frame _, fun h => by cases h⟩
  · exact trodAll_mk1 (shut_bool Tryd.underlying4 _)
  · have := trodAll_mk2 (shut_int Tryd.underlying3 w0) (Below.trod laidOut_try (by kernel_rfl) (of_decide_eq_true (by kernel_rfl)) k1 hbel lt1)
    simp only [List.nil_append] at this
    exact this
  · rfl

theorem plays_row : Rows.BitmapPlaysSaid :=
  OpenClaim.holds_of_wide 3 Tryd.f3 rfl rfl rfl rfl rfl rfl rfl ⟨rfl, rfl, rfl, rfl, rfl⟩ rfl rfl rfl rfl rfl (by kernel_rfl) Tryd.func3 (by kernel_rfl)
    (of_decide_eq_true (by kernel_rfl)) (by unfold Func.isWrapper; first | (rw [if_pos (by decide +kernel)]; kernel_rfl) | (rw [if_neg (by decide +kernel)]; exact ⟨rfl, rfl⟩))
    (fun os started H enc _ => plays_lifted os started H enc)

/-- for every input BitmapPlays returns true; the table is tied to the program's text -/
theorem plays_holds : Rows.BitmapPlaysCardSaid :=
  Claim7.holds_tied_plain_at .later [] [.data] true Rows.bitmapPlaysCard.stood.harness false
    plays_row (fun _ h => by cases h) (by kernel_rfl) (fun _ h => by cases h) bitmapPlays_row_tie rfl ⟨rfl, rfl⟩ (by kernel_rfl) rfl
    (fun f fn hf hfn => by
      obtain rfl : f = 3 := Option.some.inj ((show Tryd.prog.funcNamed "cantle/cantlelaw10.BitmapPlays" = some 3 by kernel_rfl).symm.trans hf) |>.symm
      obtain rfl : fn = Tryd.f3 := (Option.some.inj (Tryd.func3.symm.trans hfn)).symm
      exact ⟨by kernel_rfl, fun j t ht => by
        rw [Tryd.params3] at ht
        have hm : t ∈ [3, 22] := by simpa using Array.mem_of_getElem? ht
        have hall : ([3, 22].all fun u => !Tryd.prog.wantsStandIn u) = true := by kernel_rfl
        exact (show Tryd.prog.wantsStandIn t = false by simpa using List.all_eq_true.1 hall t hm)⟩)
    (by kernel_rfl)
#print axioms plays_holds
end Go.Proofs.YthfnbboambpdgaaDoor
