/- The device's settle. -/
import Derived.Test.YthfkbfbchoekjaaPmMark
namespace Go.Proofs.Ythfkbfbchoekjaa
open Go.RowKit Go.MapKept
namespace Pm
section
variable {w : World} {a : Nat} {D : Dev}

set_option maxHeartbeats 800000 in
set_option maxRecDepth 100000 in
theorem settle_one (h : Rep w a D) (pre post : List Ent) (e : Ent) (he : D.ents = pre ++ e :: post) (hm : e.mark + 1 = e.vals.length) (hc : e.vals.length ≤ e.cap) : Calls Try.prog 57 #[.pointer (some ⟨a, 0, none⟩), .int .i64 (e.key : Int)] w fun r w' =>
    r = .returned (.tuple #[]) ∧ Res w a D w' { D with ents := pre ++ post } := by
  have c5 := h.c5
  have hm0 := h.map
  rw [he] at hm0
  have hl := run_look_some hm0 (h.mid_key he).1 false
  simp only [Ent.val] at hl
  have hlt : a < w.heap.size := h.lt
  obtain ⟨n, hn⟩ : ∃ n, n = e.vals.length := ⟨_, rfl⟩
  rw [← hn] at hl hm hc
  have g1 : e.mark < n := by omega
  have g2 : n < e.mark + 2 := by omega
  have g3 : e.cap ≠ e.mark := by omega
  have hml := lt_of_some h.map
  have hdel := run_del_some (w := w.alloc (.cells #[.slice (some ⟨e.blk, e.off + e.mark, none⟩) (n - e.mark) (e.cap - e.mark), .int .i64 (e.mark : Int)] 72)) (b := D.mb) (c := D.clock) (e := e) (pre := pre) (post := post) 0 ((Below.heap_alloc _ _ _ hml).trans hm0) (h.mid_key he).1
  have HN := Lib.hid hn
  have H := Lib.hid h
  have HE := Lib.hid he
  clear h hm0 he hm hn
  go_enter Try.func57, Try.ntmps57
  go_wp2
  refine bodyPost_ret (results_none rfl _ _ _) rfl ?_
  have h := H.out
  have he := HE.out
  have hsub : (pre ++ post).Sublist D.ents := by
    rw [he]
    exact List.Sublist.append (List.Sublist.refl _) (List.sublist_cons_self _ _)
  refine ⟨rfl, ents_res h (pre ++ post) D.clock (Off.alloc (Off.refl _ _) _) ?_ ?_ ?_ ⟨fun x hx => h.stamp.1 x (hsub.subset hx), (hsub.map Ent.born).nodup h.stamp.2⟩ ?_⟩
  · intro x hx
    have hx := hsub.subset hx
    exact lies_keep (h.ent x hx) (Below.heap_alloc _ _ _ (h.foot_lt (.inr (.inr (.inr (.inl (List.mem_map_of_mem hx)))))))
  · exact ((hsub.map Ent.blk).cons_cons D.wb).nodup h.nodup
  · exact (hsub.map Ent.key).nodup h.keys
  · intro x hx
    exact .inl (List.mem_map_of_mem (hsub.subset hx))

set_option maxHeartbeats 800000 in
set_option maxRecDepth 100000 in
theorem settle_more (h : Rep w a D) (pre post : List Ent) (e : Ent) (he : D.ents = pre ++ e :: post) (hm : e.mark + 1 < e.vals.length) (hc : e.vals.length ≤ e.cap) : Calls Try.prog 57 #[.pointer (some ⟨a, 0, none⟩), .int .i64 (e.key : Int)] w fun r w' =>
    r = .returned (.tuple #[]) ∧ Res w a D w' { D with ents := pre ++ { e with vals := e.vals.drop e.mark, mark := 0, off := e.off + e.mark, cap := e.cap - e.mark } :: post } := by
  have c5 := h.c5
  have hm0 := h.map
  rw [he] at hm0
  have hl := run_look_some hm0 (h.mid_key he).1 false
  simp only [Ent.val] at hl
  have hlt : a < w.heap.size := h.lt
  obtain ⟨n, hn⟩ : ∃ n, n = e.vals.length := ⟨_, rfl⟩
  rw [← hn] at hl hm hc
  have g1 : e.mark < n := by omega
  have g2 : e.mark + 2 ≤ n := by omega
  have g3 : e.cap ≠ e.mark := by omega
  have hml := lt_of_some h.map
  have hput := run_put_some (w := (w.alloc (.cells #[.slice (some ⟨e.blk, e.off + e.mark, none⟩) (n - e.mark) (e.cap - e.mark), .int .i64 0] 72)).drew) (pre := pre) (post := post) (e := e) (e' := { e with vals := e.vals.drop e.mark, mark := 0, off := e.off + e.mark, cap := e.cap - e.mark }) (b := D.mb) (c := D.clock)
    ((Below.heap_alloc _ _ _ hml).trans hm0) (h.mid_key he).1 rfl rfl
  rw [show Ent.val { e with vals := e.vals.drop e.mark, mark := 0, off := e.off + e.mark, cap := e.cap - e.mark } = .agg #[.slice (some ⟨e.blk, e.off + e.mark, none⟩) (n - e.mark) (e.cap - e.mark), .int .i64 0] from by simp [Ent.val, hn]] at hput
  have HN := Lib.hid hn
  have H := Lib.hid h
  have HE := Lib.hid he
  clear h hm0 he hm hn
  go_enter Try.func57, Try.ntmps57
  go_wp2
  go_region
  go_end0
  have h := H.out
  have he := HE.out
  have hn := HN.out
  refine ⟨rfl, mid_res h he rfl rfl rfl (Off.drew (Off.alloc (Off.refl _ _) _)) ?_⟩
  obtain ⟨cs, hcs, r1, r2, r3⟩ := h.ent e (by rw [he]; simp)
  have hel := lt_of_some hcs
  refine ⟨cs, (Below.heap_alloc _ _ _ hel).trans hcs, ?_, ?_, ?_⟩
  · show e.off + e.mark + (e.cap - e.mark) = cs.size
    omega
  · show (e.vals.drop e.mark).length ≤ e.cap - e.mark
    rw [List.length_drop]; omega
  · show (cs.toList.drop (e.off + e.mark)).take (e.vals.drop e.mark).length = u64s (e.vals.drop e.mark)
    have := congrArg (List.drop e.mark) r3
    rw [List.drop_take, List.drop_drop] at this
    rw [List.length_drop, this]
    simp [u64s, List.map_drop]
end
end Pm
end Go.Proofs.Ythfkbfbchoekjaa
