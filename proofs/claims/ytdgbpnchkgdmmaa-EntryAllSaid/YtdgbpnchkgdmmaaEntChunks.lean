/- The program's chunks: a function that yields a directory's bytes, an entry's at a time. -/
import Derived.RangeFuncNested
import Derived.RangeFuncBound
import Derived.RangeFuncCalls
import Derived.RangeFuncLeaves
import Derived.RangeFuncBox
import Derived.Shelf.Abstract
import Derived.Shelf.RegionOpen
import Derived.WalkKit
import Derived.OwnWalkIn
import Derived.TacticsInMore
import Derived.LoopNIn
import Derived.LoopIn
import Derived.Test.YtdgbpnchkgdmmaaEntRefAll
namespace Go.Proofs.Ytdgbpnchkgdmmaa
open Go.RowKit Go.Shelf Go.MapKept
attribute [local go_sem] Oper.semAt_some
namespace Ent

/-- the chunk that is handed over -/
def ech (b o c : Nat) {n : Nat} (x : Fin n) : Array Value := #[.slice (some ⟨b, o + 64 * x.1, none⟩) 64 (c - 64 * x.1)]
/-- the block of the bytes' variable is kept -/
def Kpt (B : Nat) (W W' : World) : Prop := W'.heap[B]? = W.heap[B]?
/-- so many have come -/
def upto (n m : Nat) : List (Fin n) := (List.finRange n).take m
theorem upto_len {n m : Nat} (h : m ≤ n) : (upto n m).length = m := by
  unfold upto
  rw [List.length_take, List.length_finRange]
  omega
theorem upto_succ {n m : Nat} (h : m < n) : upto n (m + 1) = upto n m ++ [⟨m, h⟩] := by
  unfold upto
  rw [List.take_succ_eq_append_getElem (by rw [List.length_finRange]; exact h), List.getElem_finRange]
  rfl
theorem upto_all (n : Nat) : upto n n = List.finRange n := by
  unfold upto
  rw [List.take_of_length_le (by rw [List.length_finRange]; exact Nat.le_refl _)]

set_option maxRecDepth 100000 in
set_option maxHeartbeats 1000000 in
theorem chunks1_in (F : Fence) (f : Nat) (h33 : F.fn 33) (hro : F.round = none) (hf : 1 ≤ f) (l Bn : Nat) (A : Option Addr) (b o c n : Nat) (hA : 0 < n → A = some ⟨b, o, none⟩) (hc : 64 * n ≤ c) (hn : n ≤ 1000) (J Jx : List (Fin n) → World → Prop)
    (hY : ∀ pre x W, J pre W → pre.length < n → YieldAt F (f - 1) Try.prog l (ech b o c x) W fun e W' =>
      (e = .returned (.bool true) ∧ J (pre ++ [x]) W' ∧ Kpt Bn W W') ∨ (e = .returned (.bool false) ∧ Jx (pre ++ [x]) W'))
    (W : World) (hBn : Boxed W Bn 29 (.slice A (64 * n) c)) (h0 : J [] W) :
    CallsIn F f Try.prog 33 #[.func (.yield l) #[] #[], .pointer (some ⟨Bn, 0, none⟩)] W fun e W' => (∃ v, e = .returned v) ∧
      ((∃ ys, ys = List.finRange n ∧ J ys W') ∨ (∃ pre, pre <+: List.finRange n ∧ Jx pre W')) := by
  refine callsIn_of_wp Try.func33 rfl h33 ?_ hro
  simp only [Try.ntmps33, List.size_toArray, List.length_cons, List.length_nil, Nat.reduceAdd, Nat.reduceSub, Array.replicate_succ, Array.replicate_zero, List.push_toArray, List.append_toArray, List.nil_append, List.cons_append]
  gi_wp2
  gi_loopw [3] (fun p wr => ∃ m : Nat, m ≤ n ∧ p = .int .i64 ((64 * m : Nat) : Int) ∧ Boxed wr Bn 29 (.slice A (64 * n) c) ∧ J (upto n m) wr)
    (fun p _ => 64 * n - (intOf p).toNat)
  case atStart => exact ⟨0, Nat.zero_le _, rfl, hBn, h0⟩
  case round =>
    obtain ⟨m, hm, rfl, hbx, hJs⟩ := hrel
    have hcell := hbx.cell
    by_cases hlt : m < n
    · obtain rfl := hA (by omega)
      obtain ⟨fn, tmps, assign, body, hy, hR⟩ := hY (upto n m) ⟨m, hlt⟩ wr hJs (by rw [upto_len hm]; exact hlt)
      have HU := Lib.hid (upto_succ hlt)
      have hRR := Lib.hid hR
      dsimp only [ech] at hy
      clear hR
      gi_wp2
      refine hRR.out.mono ?_
      rintro e W3 (⟨rfl, hJ3, hk3⟩ | ⟨rfl, hJx3⟩)
      · have hbx3 : Boxed W3 Bn 29 (.slice (some ⟨b, o, none⟩) (64 * n) c) := Eq.trans hk3 hbx
        have HB3 := Lib.hid hbx3
        have HJ3 := Lib.hid hJ3
        clear hbx3 hJ3 hk3
        gi_wp2
        go_roundw
        case rel => exact ⟨m + 1, by omega, by congr 1, HB3.out, by rw [HU.out]; exact HJ3.out⟩
        case measure => simp [intOf]; omega
      · have HJX := Lib.hid hJx3
        clear hJx3
        gi_wp2
        refine bodyPost_ret (results_none rfl _ _ _) rfl ?_
        exact ⟨⟨_, rfl⟩, .inr ⟨_, by rw [← HU.out]; exact List.take_prefix _ _, HJX.out⟩⟩
    · obtain rfl : m = n := by omega
      rw [upto_all] at hJs
      gi_wp2
      go_end0
      exact ⟨⟨_, rfl⟩, .inl ⟨_, rfl, hJs⟩⟩

set_option maxHeartbeats 1000000 in
theorem chunks_in (F : Fence) (f : Nat) (h28 : F.fn 28) (hro : F.round = none) (v : Option Addr) (n c : Nat) (w : World) :
    CallsIn F f Try.prog 28 #[.slice v n c] w fun e w' => e = .returned (.func (.func 33) #[] #[.pointer (some ⟨w.heap.size, 0, none⟩)]) ∧ w' = w.alloc (.cells #[.slice v n c] 29) := by
  refine callsIn_of_wp Try.func28 rfl h28 ?_ hro
  simp only [Try.ntmps28, List.size_toArray, List.length_cons, List.length_nil, Nat.reduceAdd, Nat.reduceSub, Array.replicate_succ, Array.replicate_zero, List.push_toArray, List.append_toArray, List.nil_append, List.cons_append]
  gi_wp2
  go_ret
  exact ⟨rfl, rfl⟩

/-- chunks hands back a function that yields them all, or, where a round has said no more, a part -/
theorem chunks_stops (F : Fence) (f : Nat) (h33 : F.fn 33) (hro : F.round = none) (hf : 1 ≤ f) (Bn : Nat) (A : Option Addr) (b o c n : Nat) (hA : 0 < n → A = some ⟨b, o, none⟩) (hc : 64 * n ≤ c) (hn : n ≤ 1000) (w : World) (hBn : Boxed w Bn 29 (.slice A (64 * n) c)) :
    SeqStopsK F f Try.prog 33 #[.pointer (some ⟨Bn, 0, none⟩)] (ech b o c (n := n)) (Kpt Bn) (fun ys => ys = List.finRange n) (fun pre => pre <+: List.finRange n) n w := fun l J Jx W hW _ _ hY h0 =>
  chunks1_in F f h33 hro hf l Bn A b o c n hA hc hn J Jx hY W ((hW.block Bn hBn.lt).trans hBn) h0
end Ent
end Go.Proofs.Ytdgbpnchkgdmmaa
