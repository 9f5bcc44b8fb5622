/- The laws' play, with the document's empty device beside it. -/
import Derived.Test.YtlcjnmoicjgaiaaPmCrash
import Derived.Test.YtlcjnmoicjgaiaaPmLives
import Derived.Deep.RegionWith
namespace Go.Proofs.Ytlcjnmoicjgaiaa
open Go.RowKit Go.MapKept
namespace Pm

/-- the document's device without words, as a value -/
def ref0 : Value := .agg #[.slice none 0 0, .int .i64 0, .int .i64 0, .int .i64 0]

section
variable {w : World} {a : Nat} {D : Dev}

theorem ref_store (i x : Int) : Calls Try.prog 24 #[.agg #[.slice none 0 0, .int .i64 0, .int .i64 0, .int .i64 0], .int .i64 i, .int .u64 x] w fun r w' =>
    r = .returned (.tuple #[.agg #[.slice none 0 0, .int .i64 0, .int .i64 0, .int .i64 0], .bool false]) ∧ w' = (w.alloc (.cells #[.slice none 0 0, .int .i64 0, .int .i64 0, .int .i64 0] 33)).alloc (.cells #[.slice none 0 0, .int .i64 0, .int .i64 0, .int .i64 0] 33) := by
  rcases Int.lt_or_le i 0 with hi | hi
  · go_enter Try.func24, Try.ntmps24
    go_wp2
    exact bodyPost_ret (v := .tuple #[.agg #[.slice none 0 0, .int .i64 0, .int .i64 0, .int .i64 0], .bool false]) (by simp [results, Try.results24, go_sem]) rfl ⟨rfl, rfl⟩
  · go_enter Try.func24, Try.ntmps24
    go_wp2
    exact bodyPost_ret (v := .tuple #[.agg #[.slice none 0 0, .int .i64 0, .int .i64 0, .int .i64 0], .bool false]) (by simp [results, Try.results24, go_sem]) rfl ⟨rfl, rfl⟩

theorem ref_flush (i : Int) : Calls Try.prog 25 #[.agg #[.slice none 0 0, .int .i64 0, .int .i64 0, .int .i64 0], .int .i64 i] w fun r w' =>
    r = .returned (.tuple #[.agg #[.slice none 0 0, .int .i64 0, .int .i64 0, .int .i64 0], .bool false]) ∧ w' = (w.alloc (.cells #[.slice none 0 0, .int .i64 0, .int .i64 0, .int .i64 0] 33)).alloc (.cells #[.slice none 0 0, .int .i64 0, .int .i64 0, .int .i64 0] 33) := by
  rcases Int.lt_or_le i 0 with hi | hi
  · go_enter Try.func25, Try.ntmps25
    go_wp2
    exact bodyPost_ret (v := .tuple #[.agg #[.slice none 0 0, .int .i64 0, .int .i64 0, .int .i64 0], .bool false]) (by simp [results, Try.results25, go_sem]) rfl ⟨rfl, rfl⟩
  · rcases Int.lt_or_le 0 i with hj | hj
    · go_enter Try.func25, Try.ntmps25
      go_wp2
      exact bodyPost_ret (v := .tuple #[.agg #[.slice none 0 0, .int .i64 0, .int .i64 0, .int .i64 0], .bool false]) (by simp [results, Try.results25, go_sem]) rfl ⟨rfl, rfl⟩
    · have : i = 0 := by omega
      subst this
      clear hi hj
      go_enter Try.func25, Try.ntmps25
      go_wp2
      exact bodyPost_ret (v := .tuple #[.agg #[.slice none 0 0, .int .i64 0, .int .i64 0, .int .i64 0], .bool false]) (by simp [results, Try.results25, go_sem]) rfl ⟨rfl, rfl⟩

theorem ref_step : Calls Try.prog 38 #[.agg #[.slice none 0 0, .int .i64 0, .int .i64 0, .int .i64 0]] w fun r w' =>
    r = .returned (.tuple #[.agg #[.slice none 0 0, .int .i64 0, .int .i64 0, .int .i64 0], .bool false]) ∧ w' = (w.alloc (.cells #[.slice none 0 0, .int .i64 0, .int .i64 0, .int .i64 0] 33)).alloc (.cells #[.slice none 0 0, .int .i64 0, .int .i64 0, .int .i64 0] 33) := by
  go_enter Try.func38, Try.ntmps38
  go_wp2
  exact bodyPost_ret (v := .tuple #[.agg #[.slice none 0 0, .int .i64 0, .int .i64 0, .int .i64 0], .bool false]) (by simp [results, Try.results38, go_sem]) rfl ⟨rfl, rfl⟩

theorem ref_fence : Calls Try.prog 26 #[.agg #[.slice none 0 0, .int .i64 0, .int .i64 0, .int .i64 0]] w fun r w' =>
    r = .returned (.tuple #[.agg #[.slice none 0 0, .int .i64 0, .int .i64 0, .int .i64 0], .bool false]) ∧ w' = ((((w.alloc (.cells #[.slice none 0 0, .int .i64 0, .int .i64 0, .int .i64 0] 33)).alloc (.cells #[.slice none 0 0, .int .i64 0, .int .i64 0, .int .i64 0] 33)).alloc (.cells #[.slice none 0 0, .int .i64 0, .int .i64 0, .int .i64 0] 33)).alloc (.cells #[.slice none 0 0, .int .i64 0, .int .i64 0, .int .i64 0] 33)).alloc (.cells #[.slice none 0 0, .int .i64 0, .int .i64 0, .int .i64 0] 33) := by
  go_enter Try.func26, Try.ntmps26
  go_wp2_with (go_at_call 38; refine ref_step.mono ?_; rintro r w' ⟨rfl, rfl⟩)
  exact bodyPost_ret (v := .tuple #[.agg #[.slice none 0 0, .int .i64 0, .int .i64 0, .int .i64 0], .bool false]) (by simp [results, Try.results26, go_sem]) rfl ⟨rfl, rfl⟩

theorem rep_store (h : Rep w a D) (ok : D.abs.Ok) (i x : Int) : Calls Try.prog 21 #[.pointer (some ⟨a, 0, none⟩), .int .i64 i, .int .u64 x] w fun r w' =>
    r = .returned (.bool (D.abs.canStore i)) ∧ ∃ D', Res w a D w' D' ∧ D'.abs = D.abs.storeAt i x := by
  unfold Abs.storeAt
  cases hi : D.abs.has i with
  | false =>
    have hc : D.abs.canStore i = false := by simp [Abs.canStore, hi]
    simp only [hc]
    refine (store_none h i x hi).mono fun r w' ⟨hr, hw⟩ => ⟨hr, D, ?_, rfl⟩
    subst hw; exact Res.refl h
  | true =>
    cases hd : D.abs.down with
    | true =>
      have hc : D.abs.canStore i = false := by simp [Abs.canStore, hd]
      simp only [hc]
      refine (store_down h i x hd).mono fun r w' ⟨hr, hw⟩ => ⟨hr, D, ?_, rfl⟩
      subst hw; exact Res.refl h
    | false =>
      have hc : D.abs.canStore i = true := by simp [Abs.canStore, hi, hd]
      simp only [hc, if_true]
      simp only [Abs.has, Bool.and_eq_true, decide_eq_true_eq] at hi
      obtain ⟨k, rfl⟩ := Int.eq_ofNat_of_zero_le hi.1
      rw [Int.toNat_natCast]
      exact store_any h ok hd k x (by omega)

theorem rep_flush (h : Rep w a D) (ok : D.abs.Ok) (i : Int) (hs : D.abs.steps + 1 < 100000000000) : Calls Try.prog 22 #[.pointer (some ⟨a, 0, none⟩), .int .i64 i] w fun r w' =>
    r = .returned (.bool (D.abs.canFlush i)) ∧ ∃ D', Res w a D w' D' ∧ D'.abs = D.abs.flushAt i := by
  have hsz : D.words.length ≤ 4194304 := ok.size
  unfold Abs.flushAt
  rcases Int.lt_or_le i 0 with hi | hi
  · have hc : D.abs.canFlush i = false := by simp [Abs.canFlush]; omega
    simp only [hc]
    refine (flush_neg i hi).mono fun r w' ⟨hr, hw⟩ => ⟨hr, D, ?_, rfl⟩
    subst hw; exact Res.refl h
  · obtain ⟨k, rfl⟩ := Int.eq_ofNat_of_zero_le hi
    rcases Nat.lt_or_ge k ((D.words.length + 7) / 8) with hk | hk
    · cases hd : D.abs.down with
      | true =>
        have hc : D.abs.canFlush (k : Int) = false := by simp [Abs.canFlush, hd]
        simp only [hc]
        refine (flush_down h k hk hsz hd).mono fun r w' ⟨hr, hw⟩ => ⟨hr, D, ?_, rfl⟩
        subst hw; exact Res.refl h
      | false =>
        have hc : D.abs.canFlush (k : Int) = true := by
          simp only [Abs.canFlush, hd, Bool.not_false, Bool.and_true, Bool.and_eq_true, decide_eq_true_eq]
          exact ⟨hi, by show (k : Int) < ((D.words.length + 7) / 8 : Nat); omega⟩
        simp only [hc, if_true]
        rw [Int.toNat_natCast]
        exact flush_yes h ok hd k (by omega) hs
    · have hc : D.abs.canFlush (k : Int) = false := by
        simp only [Abs.canFlush, Bool.and_eq_false_iff, decide_eq_false_iff_not]
        exact .inl (.inr (by show ¬ (k : Int) < ((D.words.length + 7) / 8 : Nat); omega))
      simp only [hc]
      refine (flush_far h k hk hsz).mono fun r w' ⟨hr, hw⟩ => ⟨hr, D, ?_, rfl⟩
      subst hw; exact Res.refl h

theorem rep_fence (h : Rep w a D) (ok : D.abs.Ok) (hs : D.abs.steps + 1 < 100000000000) : Calls Try.prog 20 #[.pointer (some ⟨a, 0, none⟩)] w fun r w' =>
    r = .returned (.bool (!D.abs.down)) ∧ ∃ D', Res w a D w' D' ∧ D'.abs = D.abs.fenceAt := by
  unfold Abs.fenceAt
  cases hd : D.abs.down with
  | true =>
    refine (fence_down h hd).mono fun r w' ⟨hr, hw⟩ => ⟨hr, D, ?_, rfl⟩
    subst hw; exact Res.refl h
  | false => exact fence_yes h ok hd hs

theorem Rep.alloc (h : Rep w a D) (o : Obj) : Rep (w.alloc o) a D := h.keep (fun _ hk => Below.heap_alloc _ _ _ (h.foot_lt hk))
theorem Rep.drew (h : Rep w a D) : Rep w.drew a D := h.keep (fun _ _ => rfl)
theorem drew_get (w : World) (k : Nat) : w.drew.heap[k]? = w.heap[k]? := rfl
theorem alloc_get (w : World) (o : Obj) (k : Nat) : (w.alloc o).heap[k]? = if k = w.heap.size then some o else w.heap[k]? := by
  show (w.heap.push o)[k]? = _
  rw [Array.getElem?_push]
/-- a block of the caller's own, behind a call of the device's -/
theorem own_kept {W w2 : World} {D' : Dev} {B k : Nat} {t : TypeId} {cs : Array Value} (hres : Res W a D w2 D') (hf : ∀ k, Foot a D k → k < B) (hk : B ≤ k) (hb : W.heap[k]? = some (.cells cs t (0, 0))) : w2.heap[k]? = some (.cells cs t (0, 0)) :=
  (hres.off.block k (lt_of_some hb) (fun h => by have := hf k h; omega)).trans hb
/-- four cells -/
theorem four_cells {w2 : World} {k : Nat} {t : TypeId} {v0 v1 v2 v3 : Value} (h : w2.heap[k]? = some (.cells #[v0, v1, v2, v3] t (0, 0))) :
    w2.cell? ⟨k, 0, none⟩ = some v0 ∧ w2.cell? ⟨k, 1, none⟩ = some v1 ∧ w2.cell? ⟨k, 2, none⟩ = some v2 ∧ w2.cell? ⟨k, 3, none⟩ = some v3 ∧
    w2.frozen? ⟨k, 0, none⟩ = false ∧ w2.frozen? ⟨k, 1, none⟩ = false ∧ w2.frozen? ⟨k, 2, none⟩ = false ∧ w2.frozen? ⟨k, 3, none⟩ = false :=
  ⟨blk_cell h 0, blk_cell h 1, blk_cell h 2, blk_cell h 3, blk_frozen h 0, blk_frozen h 1, blk_frozen h 2, blk_frozen h 3⟩

theorem off_four (w2 : World) (k : Nat) (v0 v1 v2 v3 : Value) : Off (fun b => b = k) w2 ((((w2.setCell ⟨k, 0, none⟩ v0).setCell ⟨k, 1, none⟩ v1).setCell ⟨k, 2, none⟩ v2).setCell ⟨k, 3, none⟩ v3) :=
  ((((Off.refl (fun b => b = k) w2).setCell (fun _ => rfl) _).setCell (fun _ => rfl) _).setCell (fun _ => rfl) _).setCell (fun _ => rfl) _
/-- what play leaves, out of its parts -/
theorem play_end {W w2 w3 : World} {D' : Dev} {k : Nat} (h : Rep w a D) (hW : Off (fun _ => False) w W) (hres : Res W a D w2 D') (hk1 : w.heap.size ≤ k) (hk2 : k < W.heap.size) (h3 : Off (fun b => b = k) w2 w3) : Res w a D w3 D' := by
  have hne : ∀ b, Foot a D' b → b ≠ k := fun b hb e => by
    rcases hres.foot b hb with h1 | h1
    · have := h.foot_lt h1; omega
    · omega
  refine ⟨hres.rep.keep (fun b hb => h3.block b (hres.rep.foot_lt hb) (hne b hb)), ?_, ?_⟩
  · refine ((hW.mono (fun _ _ h => h.elim)).trans hres.off (fun b hb hf => hf)).trans h3 (fun b hb e => ?_)
    omega
  · intro b hb
    rcases hres.foot b hb with h1 | h1
    · exact .inl h1
    · exact .inr (Nat.le_trans hW.size h1)

def Abs.act (A : Abs) (k W X : Int) : Abs :=
  if k % 8 < 3 then A.storeAt W X else if k % 8 = 3 then A.flushAt (IntKind.i64.wrap (W.tdiv 8)) else if k % 8 = 4 then A.fenceAt else if k % 8 = 5 then A.flushAt W else A

/-- what play leaves -/
def Played (w : World) (a : Nat) (D : Dev) (A : Abs) (r : Ending) (w' : World) : Prop :=
  (∃ b, r = .returned (.tuple #[.agg #[.slice none 0 0, .int .i64 0, .int .i64 0, .int .i64 0], .bool b])) ∧ ∃ D', Res w a D w' D' ∧ D'.abs = A

set_option maxHeartbeats 1600000 in
set_option maxRecDepth 100000 in
theorem play_fence (h : Rep w a D) (ok : D.abs.Ok) (k W X : Int) (C : Option Addr) (n c : Nat) (hk : k % 8 = 4) (h0 : 0 ≤ k) (h1 : k < 256) (hs : D.abs.steps + 1 < 100000000000) :
    Calls Try.prog 9 #[.pointer (some ⟨a, 0, none⟩), .agg #[.slice none 0 0, .int .i64 0, .int .i64 0, .int .i64 0], .agg #[.int .u8 k, .int .i64 W, .int .u64 X, .slice C n c]] w (Played w a D D.abs.fenceAt) := by
  have H := Lib.hid h
  have HK := Lib.hid ok
  clear h ok
  go_enter Try.func9, Try.ntmps9
  go_wp2_with (go_at_call 26; refine ref_fence.mono ?_; rintro r w' ⟨rfl, rfl⟩)
  go_region_with (go_at_call 20
                  refine (rep_fence (D := D) ?_ HK.out hs).mono ?_
                  · repeat (first | exact H.out | refine Rep.drew ?_ | refine Rep.alloc ?_ _)
                  rintro r w2 ⟨rfl, D', hres, habs⟩
                  obtain ⟨p0, p1, p2, p3, q0, q1, q2, q3⟩ := four_cells (own_kept (k := w.heap.size + 1 + 1) (t := 33) (cs := #[.slice none 0 0, .int .i64 0, .int .i64 0, .int .i64 0]) hres (fun _ h => H.out.foot_lt h) (by omega) (by simp only [drew_get, alloc_get, World.size_alloc]; repeat (first | rw [if_pos trivial] | rw [if_pos rfl] | rw [if_neg (by omega)])))
                  obtain ⟨s0, s1, s2, s3, _, _, _, _⟩ := four_cells (own_kept (k := w.heap.size + 1 + 1 + 1 + 1 + 1 + 1 + 1 + 1) (t := 33) (cs := #[.slice none 0 0, .int .i64 0, .int .i64 0, .int .i64 0]) hres (fun _ h => H.out.foot_lt h) (by omega) (by simp only [drew_get, alloc_get, World.size_alloc]; repeat (first | rw [if_pos trivial] | rw [if_pos rfl] | rw [if_neg (by omega)])))
                  have HRES := Lib.hid hres
                  have HABS := Lib.hid habs
                  clear hres habs)
  all_goals go_wp2
  all_goals
    refine bodyPost_ret (v := .tuple #[.agg #[.slice none 0 0, .int .i64 0, .int .i64 0, .int .i64 0], .bool _]) (by simp [results, Try.results9, go_sem, p0, p1, p2, p3]; rfl) rfl ⟨⟨_, rfl⟩, D', ?_, HABS.out⟩
    refine play_end (k := w.heap.size + 1 + 1) H.out ?_ HRES.out (by omega) (by simp) ?_
    · repeat (first | exact Off.refl _ _ | refine Off.drew ?_ | refine Off.alloc ?_ _)
    · exact off_four _ _ _ _ _ _
end
end Pm
end Go.Proofs.Ytlcjnmoicjgaiaa
