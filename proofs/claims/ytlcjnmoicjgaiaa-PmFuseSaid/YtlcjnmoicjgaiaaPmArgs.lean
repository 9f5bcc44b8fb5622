/- The laws' arguments, as they are read, opened to cells. -/
import Derived.Test.YtlcjnmoicjgaiaaPmLasts
import Derived.Deep.Slices
import Derived.OpenShut
import Derived.ChangeOld
namespace Go.Proofs.Ytlcjnmoicjgaiaa
open Go.RowKit Go.MapKept Go.ChangeShapes Go.WideShapes Go.Deep
namespace Pm
section
variable {H : Type} {enc : TypeId × Value → H} {W : World} {fuel : Nat} {sp : Nat → Bool} {held : Bool}

theorem cells_act : Try.prog.cellsOf 30 = 4 := by kernel_rfl
theorem cells_u8 : Try.prog.cellsOf 5 = 1 := by kernel_rfl
theorem cells_int : Try.prog.cellsOf 3 = 1 := by kernel_rfl
theorem cells_u64 : Try.prog.cellsOf 28 = 1 := by kernel_rfl
theorem cells_sl : Try.prog.cellsOf 23 = 1 := by kernel_rfl

theorem u8_bounds {k : Int} (h : (Lit.int .u8 k).wf = true) : 0 ≤ k ∧ k < 256 := by
  have := bounds_u8 h
  omega

/-- a slice of bytes -/
theorem open_bytes {v : Value} {x : DataW H × List MemPlace} (h : DataW.trod enc Try.prog W 0 sp held fuel 23 [v] = some x) : ∃ C n c, v = .slice C n c ∧ n ≤ 9223372036854775807 ∧ Bytes W C n := by
  rcases open_slice Try.underlying23 h with ⟨hcs, _⟩ | ⟨a, len, cap, m, n, D, Pl, hcs, _, hl, hm, hmm, hx, hi⟩
  · simp at hcs
    exact ⟨none, 0, 0, hcs, by omega, by omega, fun j hj => absurd hj (by omega)⟩
  · simp at hcs
    have hlen : len ≤ 9223372036854775807 := by unfold maxLen at hm; omega
    refine ⟨some a, len, cap, hcs, hlen, hlen, fun j hj => ?_⟩
    have hjm : ∀ i, i < len → i < m := fun i hi => by rw [hmm]; split <;> omega
    have one : ∀ i, i < len → ∃ c : Int, 0 ≤ c ∧ c < 256 ∧ W.cell? (a.add i) = some (.int .u8 c) := fun i hil => by
      obtain ⟨cs', hc, ht⟩ := hi i (hjm i hil)
      rw [cells_u8, Nat.mul_one] at hc
      obtain ⟨c, rfl, _, hw⟩ := DataW.trod_int Try.underlying5 ht
      obtain ⟨_, _, hat⟩ := World.cells?_some hc
      have := hat 0 (by omega)
      simp only [List.getElem?_cons_zero] at this
      have hb := u8_bounds hw
      exact ⟨c, hb.1, hb.2, by simpa [Addr.add] using this⟩
    obtain ⟨c0, _, _, hc0⟩ := one 0 (by omega)
    obtain ⟨b, o, spot⟩ := a
    have hspot : spot = none := by simpa [Addr.add] using World.cell?_spot hc0
    subst hspot
    obtain ⟨c, h0, h1, hc⟩ := one j hj
    have hbl : b < W.heap.size := by
      have : W.cell? ⟨b, o, none⟩ = some (.int .u8 c0) := by simpa [Addr.add] using hc0
      rcases Nat.lt_or_ge b W.heap.size with h | h
      · exact h
      · simp [World.cell?, Array.getElem?_eq_none h] at this
    exact ⟨b, o, c, rfl, hbl, h0, h1, by rw [← Go.WideShapes.add_plain]; exact hc⟩

theorem cell_lt {b o : Nat} {v : Value} (h : W.cell? ⟨b, o, none⟩ = some v) : b < W.heap.size := by
  rcases Nat.lt_or_ge b W.heap.size with h1 | h1
  · exact h1
  · simp [World.cell?, Array.getElem?_eq_none h1] at h

/-- an act's four cells -/
theorem open_act {cs : List Value} {x : DataW H × List MemPlace} (h : DataW.trod enc Try.prog W 0 sp held fuel 30 cs = some x) :
    ∃ v : ActV, cs = [.int .u8 v.k, .int .i64 v.w, .int .u64 v.x, .slice v.c v.n v.cap] ∧ 0 ≤ v.k ∧ v.k < 256 ∧ v.n ≤ 9223372036854775807 := by
  obtain ⟨ys, n, _, _, hlen, hyl, hf⟩ := DataW.trod_struct Try.underlying30 h
  rw [cells_act] at hlen
  match cs, hlen with
  | [c0, c1, c2, c3], _ =>
    have g0 : DataW.trod enc Try.prog W 0 sp held n 5 [c0] = ys[0]? := hf 0 _ rfl
    have g1 : DataW.trod enc Try.prog W 0 sp held n 3 [c1] = ys[1]? := hf 1 _ rfl
    have g2 : DataW.trod enc Try.prog W 0 sp held n 28 [c2] = ys[2]? := hf 2 _ rfl
    have g3 : DataW.trod enc Try.prog W 0 sp held n 23 [c3] = ys[3]? := hf 3 _ rfl
    have hy : ys.length = 4 := hyl
    rw [List.getElem?_eq_getElem (by omega)] at g0 g1 g2 g3
    obtain ⟨k, e0, _, w0⟩ := DataW.trod_int Try.underlying5 g0
    obtain ⟨w, e1, _, _⟩ := DataW.trod_int Try.underlying3 g1
    obtain ⟨y, e2, _, _⟩ := DataW.trod_int Try.underlying28 g2
    obtain ⟨C, m, c, e3, hm, _⟩ := open_bytes g3
    simp at e0 e1 e2
    subst e0 e1 e2 e3
    have hb := u8_bounds w0
    exact ⟨⟨k, w, y, C, m, c⟩, rfl, hb.1, hb.2, hm⟩

theorem open_acts {v : Value} {x : DataW H × List MemPlace} (h : DataW.trod enc Try.prog W 0 sp held fuel 22 [v] = some x) : ∃ A n c f, v = .slice A n c ∧ Acts W W.heap.size A n f := by
  rcases open_slice Try.underlying22 h with ⟨hcs, _⟩ | ⟨a, len, cap, m, n, D, Pl, hcs, _, hl, hm, hmm, hx, hi⟩
  · simp at hcs
    exact ⟨none, 0, 0, fun _ => ⟨0, 0, 0, none, 0, 0⟩, hcs, by omega, fun j hj => absurd hj (by omega)⟩
  · simp at hcs
    have hlen : len ≤ 9223372036854775807 := by unfold maxLen at hm; omega
    have hjm : ∀ i, i < len → i < m := fun i hi => by rw [hmm]; split <;> omega
    have one : ∀ i, ∃ v : ActV, i < len → (W.cell? (a.add (i * 4)) = some (.int .u8 v.k) ∧ W.cell? ((a.add (i * 4)).add 1) = some (.int .i64 v.w) ∧ W.cell? ((a.add (i * 4)).add 2) = some (.int .u64 v.x) ∧ W.cell? ((a.add (i * 4)).add 3) = some (.slice v.c v.n v.cap) ∧ 0 ≤ v.k ∧ v.k < 256 ∧ v.n ≤ 9223372036854775807) := fun i => by
      by_cases hil : i < len
      · obtain ⟨cs', hc, ht⟩ := hi i (hjm i hil)
        rw [cells_act] at hc
        obtain ⟨v, rfl, h0, h1, h2⟩ := open_act ht
        obtain ⟨_, _, hat⟩ := World.cells?_some hc
        have a0 := hat 0 (by omega)
        have a1 := hat 1 (by omega)
        have a2 := hat 2 (by omega)
        have a3 := hat 3 (by omega)
        simp only [List.getElem?_cons_zero, List.getElem?_cons_succ] at a0 a1 a2 a3
        exact ⟨v, fun _ => ⟨by simpa [Addr.add] using a0, a1, a2, a3, h0, h1, h2⟩⟩
      · exact ⟨⟨0, 0, 0, none, 0, 0⟩, fun h => absurd h hil⟩
    obtain ⟨f, hf⟩ := Classical.skolem.1 one
    refine ⟨some a, len, cap, f, hcs, hlen, fun i hil => ?_⟩
    have hc0 := (hf 0 (by omega)).1
    obtain ⟨b, o, spot⟩ := a
    have hspot : spot = none := by simpa [Addr.add] using World.cell?_spot hc0
    subst hspot
    obtain ⟨a0, a1, a2, a3, h0, h1, h2⟩ := hf i hil
    simp only [Go.WideShapes.add_plain] at a0 a1 a2 a3
    exact ⟨b, o, rfl, cell_lt a0, ⟨a0, a1, a2, a3, h0, h1⟩, h2⟩
end
end Pm

theorem laidOut_try : laidOutB Try.prog = true := by kernel_rfl
end Go.Proofs.Ytlcjnmoicjgaiaa
