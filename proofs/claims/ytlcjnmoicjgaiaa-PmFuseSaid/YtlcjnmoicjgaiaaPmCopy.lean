/- The device's Arm, Steps, Same and Copy. -/
import Derived.Test.YtlcjnmoicjgaiaaPmLast
import Derived.Test.YtlcjnmoicjgaiaaPmKeysR
import Derived.Test.YtlcjnmoicjgaiaaPmLives
import Derived.BigQuiet
import Derived.Deep.QuietTactic
namespace Go.Proofs.Ytlcjnmoicjgaiaa
open Go.RowKit Go.MapKept
namespace Pm
section
variable {w : World} {a a' : Nat} {D D' : Dev}

theorem steps_any (h : Rep w a D) : Calls Try.prog 17 #[.pointer (some ⟨a, 0, none⟩)] w fun r w' => r = .returned (.int .i64 (D.steps : Int)) ∧ w = w' := by
  have c0 := h.c0
  clear h
  go_enter Try.func17, Try.ntmps17
  go_wp2
  go_ret
  exact ⟨rfl, rfl⟩

theorem arm_any (h : Rep w a D) (n : Nat) : Calls Try.prog 16 #[.pointer (some ⟨a, 0, none⟩), .int .i64 (n : Int)] w fun r w' =>
    r = .returned (.tuple #[]) ∧ Res w a D w' { D with armed := true, left := n } := by
  have c2 := h.c2
  have c3 := h.c3
  have f2 := h.frozen 2
  have f3 := h.frozen 3
  have H := Lib.hid h
  clear h
  go_enter Try.func16, Try.ntmps16
  go_wp2
  go_end0
  have h := H.out
  refine ⟨rfl, h.turn (D' := { D with armed := true, left := n }) ?_ (fun k hk hne => (Below.heap_setCell _ _ _ _ hne).trans (Below.heap_setCell _ _ _ _ hne)) rfl rfl rfl rfl rfl rfl rfl, ((Off.refl _ _).setCell (fun _ => .inl rfl) _).setCell (fun _ => .inl rfl) _, fun _ h => .inl h⟩
  rw [blk_set (blk_set h.dev 2 _) 3 _]
  simp [Dev.cells]

set_option maxHeartbeats 800000 in
set_option maxRecDepth 100000 in
/-- equal words -/
theorem equal_any (b b' : Nat) (c c' : Nat) (l : List Int) (hl : l.length < 1000000000000) (h : ∀ i, (hi : i < l.length) → w.cell? ⟨b, i, none⟩ = some (.int .u64 l[i])) (h' : ∀ i, (hi : i < l.length) → w.cell? ⟨b', i, none⟩ = some (.int .u64 l[i])) :
    Calls Try.prog 34 #[.slice (some ⟨b, 0, none⟩) l.length c, .slice (some ⟨b', 0, none⟩) l.length c'] w fun r w' => r = .returned (.bool true) ∧ ∃ n, w' = w.drewN n := by
  have H := Lib.hid h
  have H' := Lib.hid h'
  clear h h'
  go_enter Try.func34, Try.ntmps34
  go_wp2
  go_loopw [13] (fun i wr => ∃ m : Nat, m ≤ l.length ∧ i = .int .i64 (m : Int) ∧ ∃ n, wr = w.drewN n) (fun i _ => l.length - (intOf i).toNat)
  case atStart => exact ⟨0, Nat.zero_le _, rfl, 0, rfl⟩
  case round =>
    obtain ⟨m, hm, rfl, nd, rfl⟩ := hrel
    by_cases hlt : m < l.length
    · have k0 := H.out m hlt
      have k1 := H'.out m hlt
      go_wp2
      go_quiet (fail)
      go_wp2
      exact ⟨⟨m + 1, by omega, by go_num, nd + nq, rfl⟩, by simp [intOf]; omega⟩
    · go_wp2
      go_ret
      exact ⟨rfl, nd, rfl⟩

set_option maxHeartbeats 800000 in
set_option maxRecDepth 100000 in
/-- two devices with the same words -/
theorem same_any (c g g' n n' : Nat) (l : List Int) (hl : l.length < 1000000000000) (h4 : w.cell? ⟨a, 4, none⟩ = some (.slice (some ⟨g, 0, none⟩) l.length n)) (h4' : w.cell? ⟨c, 4, none⟩ = some (.slice (some ⟨g', 0, none⟩) l.length n'))
    (h : ∀ i, (hi : i < l.length) → w.cell? ⟨g, i, none⟩ = some (.int .u64 l[i])) (h' : ∀ i, (hi : i < l.length) → w.cell? ⟨g', i, none⟩ = some (.int .u64 l[i])) :
    Calls Try.prog 19 #[.pointer (some ⟨a, 0, none⟩), .pointer (some ⟨c, 0, none⟩)] w fun r w' => r = .returned (.bool true) ∧ ∃ n, w' = w.drewN n := by
  have HE := Lib.hid (fun nd => equal_any (w := w.drewN nd) g g' n n' l hl h h')
  clear h h'
  go_enter Try.func19, Try.ntmps19
  go_wp2
  go_quiet ((go_at_call 34; exact Calls.quiet_of (HE.out _)))
  go_wp2
  go_ret
  exact ⟨rfl, _, rfl⟩

theorem own_gen (G : Option Addr) (n m : Nat) : Calls Try.prog 23 #[.slice G n m] w fun e w' => e = .returned (.pointer (some ⟨w.heap.size + 1, 0, none⟩)) ∧
    w' = (w.alloc (.map #[] 0)).alloc (.cells #[.int .i64 0, .int .i64 0, .bool false, .int .i64 0, .slice G n m, .map (some w.heap.size), .slice none 0 0] 47) := by
  have hmm := @run_makeMap Try.prog
  go_enter Try.func23, Try.ntmps23
  go_wp2
  go_ret
  exact ⟨rfl, rfl⟩

/-- a slice was made -/
def SliceAns (w : World) (n : Nat) (r : Ending) (w' : World) : Prop := ∃ G c, r = .returned (.slice G n c) ∧ Off (fun _ => False) w w'

theorem oneCell_i64s (l : List Nat) : ∀ u ∈ i64s l, u.oneCell' = true := by
  intro u hu
  obtain ⟨x, _, rfl⟩ := List.mem_map.1 hu
  rfl

set_option maxHeartbeats 800000 in
set_option maxRecDepth 100000 in
theorem clone_int (v : Value) (l : List Nat) (B : Nat) (hown : w.ownsRow B 3 1 v l.length (i64s l)) (hl : l.length < 1000000000) : Calls Try.prog 33 #[v] w (SliceAns w l.length) := by
  rcases hown.2 with ⟨rfl, h0⟩ | ⟨g, cap, cur, rfl, _, hb, hn, _, hsz, ht⟩
  · rw [h0]
    have hq : ∀ W : World, (binOp .eql 45 (.slice none 0 0) (.slice none 0 0)).run Try.prog W = .ok (.bool true) W := fun W => Lib.run_eql_slice_nil W _ _ _ _ _ _ _ Try.underlying45
    clear hown h0
    go_enter Try.func33, Try.ntmps33
    go_wp2
    go_ret
    exact ⟨none, 0, rfl, Off.refl _ _⟩
  · obtain ⟨i0, hi0, hz0, hz1, hz2⟩ := info_parts int_info
    have hq : ∀ W : World, (binOp .eql 45 (.slice (some ⟨g, 0, none⟩) l.length cap) (.slice none 0 0)).run Try.prog W = .ok (.bool false) W := fun W => Lib.run_eql_slice_nil W _ _ _ _ _ _ _ Try.underlying45
    have hown0 : (w.alloc (.cells #[] 3)).ownsRow w.heap.size 3 1 (.slice (some ⟨w.heap.size, 0, none⟩) 0 0) 0 [] :=
      ⟨by simp, .inr ⟨w.heap.size, 0, #[], rfl, Nat.le_refl _, (heap_alloc w _).1, Nat.le_refl _, by unfold maxLen; omega, rfl, rfl⟩⟩
    have HO := Lib.hid hown0
    have hc2 : ∀ j u, (i64s l)[j]? = some u → (w.alloc (.cells #[] 3)).cell? ((⟨g, 0, none⟩ : Addr).add j) = some u := fun j u hu => by
      rw [Addr.add_lit, blk_cell (blk_alloc hb _), Nat.zero_add, ← Array.getElem?_toList]
      have hjl := (List.getElem?_eq_some_iff.1 hu).1
      have := congrArg (·[j]?) ht
      simp only [Nat.mul_one] at this
      rw [List.getElem?_take, if_pos (by simpa [i64s] using hjl), hu] at this
      exact this
    have HC := Lib.hid hc2
    clear hc2 hown hown0 hb ht hsz
    go_enter Try.func33, Try.ntmps33
    go_wp2_with (at_builtin; refine wpList_append_own_at _ rfl (.tmp 5) (.tmp 6) 45 rfl w.heap.size 3 i0 (.int .i64 0) 1 8 Try.underlying45 hi0 hz0 hz1 hz2 rfl (by decide) (.slice (some ⟨w.heap.size, 0, none⟩) 0 0) 0 [] rfl HO.out ⟨g, 0, none⟩ l.length cap (i64s l) rfl (by simp [i64s]) HC.out (oneCell_i64s l) (by unfold maxLen; omega) (by omega) (by simp) ?_
                 intro v' w2 hown2 hgr hnil hloc
                 obtain ⟨G', gc', rfl, hG'⟩ := row_slice hown2
                 have HG := Lib.hid hgr
                 clear hown2 hgr hnil hloc hG')
    go_ret
    refine ⟨G', gc', by simp, ((Off.refl _ _).alloc _).grown HG.out (fun k hk hlt => ?_)⟩
    simp [Value.ownBlock] at hk
    omega
end
end Pm
end Go.Proofs.Ytlcjnmoicjgaiaa
