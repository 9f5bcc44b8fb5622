/- The chapter's example; fields and widths that are new; PackOne. -/
import Derived.Test.YtblibjjnbbleeaaDoorPackSplit
namespace Go.Proofs.YtblibjjnbbleeaaDoor
open Go.RowKit Go.MapKept
namespace Pack

theorem Wds.alloc {w : World} {A : Option Addr} {l : List Nat} (h : Wds w A l) (o : Obj) : Wds (w.alloc o) A l := h.keep ((Below.refl _ _).alloc (Nat.le_refl _) o)
theorem Nts.alloc {w : World} {A : Option Addr} {l : List Int} (h : Nts w A l) (o : Obj) : Nts (w.alloc o) A l := h.keep ((Below.refl _ _).alloc (Nat.le_refl _) o)

theorem alloc_cell (w : World) (C : Array Value) (t : TypeId) (j : Nat) : (w.alloc (.cells C t)).cell? ⟨w.heap.size, j, none⟩ = C[j]? := World.cell?_alloc_mark w C t _ j

/-- new fields -/
theorem fds_one (w : World) (n : Int) (v : Nat) (h1 : -9223372036854775808 ≤ n) (h2 : n ≤ 9223372036854775807) (h3 : v < 18446744073709551616) : Fds (w.alloc (.cells #[.int .i64 n, .int .u64 (v : Int)] 83)) (some ⟨w.heap.size, 0, none⟩) [⟨n, v⟩] :=
  ⟨fun f hf => by
    obtain rfl : f = ⟨n, v⟩ := by simpa using hf
    exact ⟨h1, h2, h3⟩, by simp, fun j hj => by
    obtain rfl : j = 0 := by simpa using hj
    exact ⟨w.heap.size, 0, rfl, by simp, alloc_cell _ _ _ _, alloc_cell _ _ _ _⟩⟩
theorem fds_two (w : World) : Fds (w.alloc (.cells #[.int .i64 4, .int .u64 5, .int .i64 8, .int .u64 7] 83)) (some ⟨w.heap.size, 0, none⟩) [⟨4, 5⟩, ⟨8, 7⟩] :=
  ⟨fun f hf => by
    rcases List.mem_cons.1 hf with rfl | hf
    · exact ⟨by decide, by decide, by decide⟩
    · obtain rfl : f = ⟨8, 7⟩ := by simpa using hf
      exact ⟨by decide, by decide, by decide⟩, by decide, fun j hj => by
    have : j < 2 := hj
    match j, this with
    | 0, _ => exact ⟨w.heap.size, 0, rfl, by simp, alloc_cell _ _ _ _, alloc_cell _ _ _ _⟩
    | 1, _ => exact ⟨w.heap.size, 0, rfl, by simp, alloc_cell _ _ _ _, alloc_cell _ _ _ _⟩⟩
theorem nts_one (w : World) (n : Int) (h1 : -9223372036854775808 ≤ n) (h2 : n ≤ 9223372036854775807) : Nts (w.alloc (.cells #[.int .i64 n] 3)) (some ⟨w.heap.size, 0, none⟩) [n] :=
  ⟨fun f hf => by
    obtain rfl : f = n := by simpa using hf
    exact ⟨h1, h2⟩, by simp, fun j hj => by
    obtain rfl : j = 0 := by simpa using hj
    exact ⟨w.heap.size, 0, rfl, by simp, alloc_cell _ _ _ _⟩⟩
theorem nts_two (w : World) : Nts (w.alloc (.cells #[.int .i64 4, .int .i64 8] 3)) (some ⟨w.heap.size, 0, none⟩) [4, 8] :=
  ⟨fun f hf => by
    rcases List.mem_cons.1 hf with rfl | hf
    · exact ⟨by decide, by decide⟩
    · obtain rfl : f = 8 := by simpa using hf
      exact ⟨by decide, by decide⟩, by decide, fun j hj => by
    have : j < 2 := hj
    match j, this with
    | 0, _ => exact ⟨w.heap.size, 0, rfl, by simp, alloc_cell _ _ _ _⟩
    | 1, _ => exact ⟨w.heap.size, 0, rfl, by simp, alloc_cell _ _ _ _⟩⟩

theorem pk_two : pk 0 0 [⟨4, 5⟩, ⟨8, 7⟩] = some (117, 12) := by decide
theorem split_two : split 117 [4, 8] = some [5, 7] := by decide

set_option maxHeartbeats 1600000 in
set_option maxRecDepth 100000 in
theorem lives_any (w : World) : Calls Tryd.prog 44 #[] w fun r w' => r = .returned (.bool true) ∧ Below w.heap.size w w' := by
  have c1 := pack_any _ 2 _ (fds_two w)
  rw [pk_two] at c1
  have C1 := Lib.hid c1
  have C2 := Lib.hid (fun (w : World) => split_any 117 (by decide) _ 2 _ (nts_two w))
  clear c1
  have HB1 := Lib.hid ((Below.refl w.heap.size w).alloc (Nat.le_refl _) (.cells #[.int .i64 4, .int .u64 5, .int .i64 8, .int .u64 7] 83))
  go_enter Tryd.func44, Tryd.ntmps44
  go_wp2_with fail
  refine C1.out.mono ?_
  rintro e w1 ⟨rfl, hb⟩
  have HB2 := Lib.hid (HB1.out.trans (hb.mono HB1.out.size))
  clear hb HB1
  go_wp2_with fail
  refine (C2.out w1).mono ?_
  rintro e w2 ⟨G, gc, rfl, hw, hb⟩
  have h3 := HB2.out.alloc HB2.out.size (.cells #[.int .i64 4, .int .i64 8] 3)
  have HB3 := Lib.hid (h3.trans (hb.mono h3.size))
  clear hb h3
  rw [split_two] at hw ⊢
  simp only [Option.getD_some] at hw
  obtain ⟨b, o, rfl, hlt, hc0⟩ := hw.at' 0 (by decide)
  obtain ⟨b', o', e, _, hc1⟩ := hw.at' 1 (by decide)
  injection e with e
  injection e with e1 e2
  subst e1 e2
  clear hw
  simp only [List.getElem_cons_zero, List.getElem_cons_succ, Nat.add_zero] at hc0 hc1
  go_wp2
  go_ret
  exact ⟨rfl, HB3.out⟩
end Pack
end Go.Proofs.YtblibjjnbbleeaaDoor
