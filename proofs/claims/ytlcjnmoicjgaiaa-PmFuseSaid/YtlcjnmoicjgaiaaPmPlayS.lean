/- The laws' play: a store. -/
import Derived.Test.YtlcjnmoicjgaiaaPmPlay
namespace Go.Proofs.Ytlcjnmoicjgaiaa
open Go.RowKit Go.MapKept
namespace Pm
section
variable {w : World} {a : Nat} {D : Dev}

set_option maxHeartbeats 3200000 in
set_option maxRecDepth 100000 in
theorem play_store (h : Rep w a D) (ok : D.abs.Ok) (k W X : Int) (C : Option Addr) (n c : Nat) (m : Int) (hm3 : m < 3) (hk : k % 8 = m) (h0 : 0 ≤ k) (h1 : k < 256) :
    Calls Try.prog 9 #[.pointer (some ⟨a, 0, none⟩), .agg #[.slice none 0 0, .int .i64 0, .int .i64 0, .int .i64 0], .agg #[.int .u8 k, .int .i64 W, .int .u64 X, .slice C n c]] w (Played w a D (D.abs.storeAt W X)) := by
  have H := Lib.hid h
  have HK := Lib.hid ok
  clear h ok
  go_enter Try.func9, Try.ntmps9
  go_wp2_with (go_at_call 24; refine (ref_store _ _).mono ?_; rintro r w' ⟨rfl, rfl⟩)
  go_region_with (go_at_call 21
                  refine (rep_store (D := D) ?_ HK.out W X).mono ?_
                  · repeat (first | exact H.out | refine Rep.drew ?_ | refine Rep.alloc ?_ _)
                  rintro r w2 ⟨rfl, D', hres, habs⟩
                  obtain ⟨p0, p1, p2, p3, q0, q1, q2, q3⟩ := four_cells (own_kept (k := w.heap.size + 1 + 1) (t := 33) (cs := #[.slice none 0 0, .int .i64 0, .int .i64 0, .int .i64 0]) hres (fun _ h => H.out.foot_lt h) (by omega) (by simp only [drew_get, alloc_get, World.size_alloc]; repeat (first | rw [if_pos trivial] | rw [if_pos rfl] | rw [if_neg (by omega)])))
                  obtain ⟨s0, s1, s2, s3, _, _, _, _⟩ := four_cells (own_kept (k := w.heap.size + 1 + 1 + 1 + 1 + 1) (t := 33) (cs := #[.slice none 0 0, .int .i64 0, .int .i64 0, .int .i64 0]) hres (fun _ h => H.out.foot_lt h) (by omega) (by simp only [drew_get, alloc_get, World.size_alloc]; repeat (first | rw [if_pos trivial] | rw [if_pos rfl] | rw [if_neg (by omega)])))
                  have HRES := Lib.hid hres
                  have HABS := Lib.hid habs
                  clear hres habs)
  all_goals go_wp2
  all_goals
    refine bodyPost_ret (v := .tuple #[.agg #[.slice none 0 0, .int .i64 0, .int .i64 0, .int .i64 0], .bool (!D.abs.canStore W)]) (by simp [results, Try.results9, go_sem, p0, p1, p2, p3]) rfl ⟨⟨_, rfl⟩, D', ?_, HABS.out⟩
    refine play_end (k := w.heap.size + 1 + 1) H.out ?_ HRES.out (by omega) (by simp) ?_
    · repeat (first | exact Off.refl _ _ | refine Off.drew ?_ | refine Off.alloc ?_ _)
    · exact off_four _ _ _ _ _ _
end
end Pm
end Go.Proofs.Ytlcjnmoicjgaiaa
