/- The keys of what is pending, sorted: the library's contracts at this program. -/
import Derived.Test.YtlcjnmoicjgaiaaLay
import Derived.Test.YtlcjnmoicjgaiaaPmKeys
namespace Go.Proofs.Ytlcjnmoicjgaiaa
open Go.RowKit Go.Maps Go.Sort Go.Shelf
namespace Pm

theorem sortsA (m : Nat) : AnyZI.SortsIn Try.prog Try.sortedA_ren Fence.wide m :=
  ⟨fun blk off cap ss W hH hblk hsz => callsIn_wide.2 (AnyM.slices_Sort_int Try.sortA blk off cap ss W hH hblk hsz),
   fun p cap W => callsIn_wide.2 (AnyM.slices_Sort_int_none Try.sortA p cap W)⟩

theorem keys_call (mb : Option Nat) (W : World) : Calls Try.prog 31 #[.map mb] W fun e w' =>
    e = .returned (.func (.func 41) #[] #[.pointer (some ⟨W.heap.size, 0, none⟩)]) ∧ w' = W.alloc (.cells #[.map mb] 44) :=
  (callsIn_wide (n := 5)).1 (AnyZI.keys_in Try.keysA Fence.wide 5 trivial rfl mb W)

set_option maxHeartbeats 1000000 in
theorem sorted_call {w : World} {a : Nat} {D : Dev} (h : Rep w a D) (ok : D.abs.Ok) :
    Calls Try.prog 30 #[.func (.func 41) #[] #[.pointer (some ⟨w.heap.size, 0, none⟩)]] (w.alloc (.cells #[.map (some D.mb)] 44)) fun e w' =>
      ∃ (v : Value) (ks : List Nat), e = .returned v ∧ ks.Perm (D.ents.map Ent.key) ∧ w'.ownsRow (w.heap.size + 1) 3 1 v ks.length (i64s ks) ∧ Below (w.heap.size + 1) (w.alloc (.cells #[.map (some D.mb)] 44)) w' := by
  obtain ⟨D0, hown, hperm, hsize⟩ := rep_ownsMap h ok
  have hbl := hown.lt
  have hlen : D.ents.length ≤ 4194304 := by
    have := nodup_lt 4194304 (D.ents.map Ent.key) h.keys (fun k hk => by
      obtain ⟨e, he, rfl⟩ := List.mem_map.1 hk
      have := (ok.ent e.abs (List.mem_map_of_mem he)).1
      have hs := ok.size
      simp only [Ent.abs] at this
      omega)
    simpa using this
  have hseq : SeqGives Fence.wide 2 Try.prog 41 #[.pointer (some ⟨w.heap.size, 0, none⟩)] encZ (fun ss => ss.Perm (intKeys D0)) (Maps.size D0) (w.alloc (.cells #[.map (some D.mb)] 44)) :=
    AnyZI.keys_gives (ρ := Try.keysA_ren) { Try.keysA with } Fence.wide _ trivial rfl (by omega) w.heap.size D.mb D.ents.length D0 _ (by simp) (by simp) (by
      obtain ⟨es, clock, hb, Ft, hs, hD⟩ := hown
      exact ⟨es, clock, (Below.heap_alloc _ _ _ hbl).trans hb, Ft, hs, hD⟩)
  have cS := AnyZI.sorted_in Try.sortedA Fence.wide 5 trivial trivial trivial trivial rfl (by omega) (sortsA _) (enters_of Try.func40 (by kernel_rfl) rfl) 41 #[.pointer (some ⟨w.heap.size, 0, none⟩)] trivial (enters_of Try.func41 (by kernel_rfl) rfl) _ _ (by rw [hsize]; unfold maxLen; omega) (by rw [hsize]; omega) _ hseq
  change CallsIn _ _ Try.prog 30 _ _ _ at cS
  refine ((callsIn_wide (n := 5)).1 cS).mono ?_
  rintro e w' ⟨v, ss, rfl, hS, hrow, _, hb⟩
  have hp2 : (ss.mergeSort (fun x y => decide (x ≤ y))).Perm (D.ents.map fun e => (e.key : Int)) := (List.mergeSort_perm _ _).trans (hS.trans hperm)
  have hnn : ∀ x ∈ ss.mergeSort (fun x y => decide (x ≤ y)), 0 ≤ x := fun x hx => by
    obtain ⟨e, _, rfl⟩ := List.mem_map.1 (hp2.mem_iff.1 hx)
    omega
  refine ⟨v, (ss.mergeSort (fun x y => decide (x ≤ y))).map Int.toNat, rfl, ?_, ?_, ?_⟩
  · have := hp2.map Int.toNat
    rw [List.map_map] at this
    exact this
  · have e1 : i64s ((ss.mergeSort (fun x y => decide (x ≤ y))).map Int.toNat) = (ss.mergeSort (fun x y => decide (x ≤ y))).map encZ := by
      simp only [i64s, List.map_map]
      refine List.map_congr_left fun x hx => ?_
      have := hnn x hx
      simp only [Function.comp, encZ]
      congr 1
      omega
    rw [e1, List.length_map, List.length_mergeSort]
    rw [World.size_alloc] at hrow
    exact hrow
  · rw [World.size_alloc] at hb
    exact hb
end Pm
end Go.Proofs.Ytlcjnmoicjgaiaa
