/- The device's May and Lasting. -/
import Derived.Test.YthfkbfbchoekjaaPmFlush
import Derived.Lib.SliceRun
namespace Go.Proofs.Ythfkbfbchoekjaa
open Go.RowKit Go.MapKept
namespace Pm

def Abs.may (A : Abs) (k : Nat) : List Int :=
  match pget A.pend k with
  | some (vs, _) => vs
  | none => [A.words[k]?.getD 0]
def Abs.lasting (A : Abs) (k : Nat) : Int := (A.may k).headD 0

/-- a slice of the call's own, with these words -/
def Got (w w' : World) (l : List Int) (r : Ending) : Prop :=
  ∃ v, r = .returned v ∧ w'.ownsRow w.heap.size 39 1 v l.length (u64s l) ∧ Off (fun _ => False) w w'

theorem block_of_add (a : Addr) (n : Nat) : (a.add n).block = a.block := by unfold Addr.add; split <;> rfl
theorem oneCell_u64s (l : List Int) : ∀ u ∈ u64s l, u.oneCell' = true := by
  intro u hu
  obtain ⟨x, _, rfl⟩ := List.mem_map.1 hu
  rfl
theorem row_base {w : World} {b b' : Nat} {e : TypeId} {size n : Nat} {v : Value} {xs : List Value} (h : w.ownsRow b e size v n xs) (hb : b' ≤ b) : w.ownsRow b' e size v n xs := by
  refine ⟨h.1, ?_⟩
  rcases h.2 with h2 | ⟨g, cap, cur, e, hg, r⟩
  · exact .inl h2
  · exact .inr ⟨g, cap, cur, e, Nat.le_trans hb hg, r⟩

section
variable {w : World} {a : Nat} {D : Dev}

set_option maxHeartbeats 800000 in
set_option maxRecDepth 100000 in
theorem clone_any (ad : Addr) (c : Nat) (l : List Int) (hb : ad.block < w.heap.size) (hl : l.length < 1000000000000) (hc : ∀ j u, (u64s l)[j]? = some u → w.cell? (ad.add j) = some u) :
    Calls Try.prog 55 #[.slice (some ad) l.length c] w fun r w' => Got w w' l r := by
  obtain ⟨i0, hi0, hz0, hz1, hz2⟩ := info_parts u64_info
  have hq : ∀ W : World, (binOp .eql 25 (.slice (some ad) l.length c) (.slice none 0 0)).run Try.prog W = .ok (.bool false) W := fun W => Lib.run_eql_slice_nil W _ _ _ _ _ _ _ Try.underlying25
  have hown : (w.alloc (.cells #[] 39)).ownsRow w.heap.size 39 1 (.slice (some ⟨w.heap.size, 0, none⟩) 0 0) 0 [] :=
    ⟨by simp, .inr ⟨w.heap.size, 0, #[], rfl, Nat.le_refl _, (heap_alloc w _).1, Nat.le_refl _, by unfold maxLen; omega, rfl, rfl⟩⟩
  have HO := Lib.hid hown
  have hc2 : ∀ j u, (u64s l)[j]? = some u → (w.alloc (.cells #[] 39)).cell? (ad.add j) = some u := fun j u hu => by
    rw [World.cell?_of_block (w := w) (Below.heap_alloc _ _ _ (by rw [block_of_add]; exact hb))]
    exact hc j u hu
  have HC := Lib.hid hc2
  clear hc hc2 hown
  go_enter Try.func55, Try.ntmps55
  go_wp2_with (at_builtin; refine wpList_append_own_at _ rfl (.tmp 5) (.tmp 6) 25 rfl w.heap.size 39 i0 (.int .u64 0) 1 8 Try.underlying25 hi0 hz0 hz1 hz2 rfl (by decide) (.slice (some ⟨w.heap.size, 0, none⟩) 0 0) 0 [] rfl HO.out ad l.length c (u64s l) rfl (by simp [u64s]) HC.out (oneCell_u64s l) (by unfold maxLen; omega) (by omega) (by simp) ?_
               intro v' w2 hown2 hgr hnil hloc
               have HO2 := Lib.hid hown2
               have HG := Lib.hid hgr
               clear hown2 hgr hnil hloc)
  go_ret
  refine ⟨v', rfl, by simpa using HO2.out, ((Off.refl _ _).alloc _).grown HG.out (fun k hk hlt => ?_)⟩
  simp [Value.ownBlock] at hk
  omega

theorem Got.rep {r : Ending} {w' : World} {l : List Int} (h : Rep w a D) (g : Got w w' l r) : Rep w' a D := by
  obtain ⟨v, _, _, ho⟩ := g
  exact h.keep (fun k hk => ho.block k (h.foot_lt hk) id)

theorem may_none (h : Rep w a D) (i : Int) (hi : D.hasB i = false) : Calls Try.prog 37 #[.pointer (some ⟨a, 0, none⟩), .int .i64 i] w fun r w' => r = .returned (.slice none 0 0) ∧ w = w' := by
  have hc := has_any h i
  rw [hi] at hc
  have H := Lib.hid hc
  clear hc hi h
  go_enter Try.func37, Try.ntmps37
  go_wp2_with (go_at_call 32; refine H.out.mono ?_; rintro e w' ⟨rfl, rfl⟩)
  go_ret
  exact ⟨rfl, rfl⟩

set_option maxHeartbeats 800000 in
set_option maxRecDepth 100000 in
theorem may_any (h : Rep w a D) (ok : D.abs.Ok) (k : Nat) (hk : k < D.words.length) : Calls Try.prog 37 #[.pointer (some ⟨a, 0, none⟩), .int .i64 (k : Int)] w fun r w' => Got w w' (D.abs.may k) r := by
  have hc := has_any h (k : Int)
  rw [has_yes (by omega) (by omega)] at hc
  have H1 := Lib.hid hc
  have c4 := h.c4
  have c5 := h.c5
  have cw := h.word k
  rw [List.getElem?_eq_getElem hk] at cw
  have hlt := h.lt
  have hwl : D.wb < w.heap.size := lt_of_some h.wds
  unfold Abs.may
  cases hg : pget D.abs.pend k with
  | none =>
    have hn : k ∉ D.ents.map Ent.key := by rw [← keys_abs]; exact pget_none.1 hg
    have hl := run_look_none h.map hn true
    simp only [if_true] at hl
    have hgot : Got w (((w.alloc (.cells #[.slice none 0 0, .int .i64 0] 72)).alloc (.cells #[.int .u64 D.words[k]] 39))) [D.abs.words[k]?.getD 0] (.returned (.slice (some ⟨w.heap.size + 1, 0, none⟩) 1 1)) := by
      refine ⟨_, rfl, ⟨by simp [u64s], .inr ⟨w.heap.size + 1, 1, #[.int .u64 D.words[k]], rfl, by omega, ?_, Nat.le_refl _, by unfold maxLen; omega, rfl, ?_⟩⟩, ((Off.refl _ _).alloc _).alloc _⟩
      · have := (heap_alloc (w.alloc (.cells #[.slice none 0 0, .int .i64 0] 72)) (.cells #[.int .u64 D.words[k]] 39)).1
        rw [World.size_alloc] at this
        exact this
      · simp [u64s, Dev.abs, List.getElem?_eq_getElem hk]
    have HG := Lib.hid hgot
    clear hc h ok hg hn hgot
    go_enter Try.func37, Try.ntmps37
    go_wp2_with (go_at_call 32; refine H1.out.mono ?_; rintro e w' ⟨rfl, rfl⟩)
    go_ret
    exact HG.out
  | some v =>
    obtain ⟨pre, post, e, he, rfl, hv, hm, hn⟩ := ents_of_get hg
    have hent := ok.ent _ (pget_mem hg)
    have hfew := ok.few
    have hcnt := ok.cnt
    simp only [← hv, ← hm] at hent
    have hb : e.vals.length < 1000000000000 := by omega
    obtain ⟨v1, v2⟩ := v
    simp only at hv hm
    subst hv hm
    have hm0 := h.map
    rw [he] at hm0
    have hl := run_look_some hm0 (h.mid_key he).1 true
    simp only [if_true, Ent.val] at hl
    obtain ⟨cs, hcs, r1, r2, r3⟩ := h.ent e (by rw [he]; simp)
    have hel := lt_of_some hcs
    have hcl := clone_any (w := w.alloc (.cells #[.slice (some ⟨e.blk, e.off, none⟩) e.vals.length e.cap, .int .i64 (e.mark : Int)] 72)) ⟨e.blk, e.off, none⟩ e.cap e.vals (by simp; omega) hb (fun j u hj => by
      rw [Addr.add_lit, blk_cell (blk_alloc hcs _), ← hj, ← r3]
      have hjl : j < e.vals.length := by
        have := (List.getElem?_eq_some_iff.1 hj).1
        simpa [u64s] using this
      rw [List.getElem?_take, if_pos hjl, List.getElem?_drop, Array.getElem?_toList])
    have HC := Lib.hid hcl
    clear hc h ok hg hn hm0 hcl hcs r1 r2 r3 he hent
    go_enter Try.func37, Try.ntmps37
    go_wp2_with (first
      | (go_at_call 32; refine H1.out.mono ?_; rintro e w' ⟨rfl, rfl⟩)
      | (go_at_call 55; refine HC.out.mono ?_; rintro r w2 ⟨v, rfl, hown, hoff⟩; have HO := Lib.hid hown; have HF := Lib.hid hoff; clear hown hoff))
    go_ret
    refine ⟨v, rfl, ?_, ?_⟩
    · have := HO.out
      rw [World.size_alloc] at this
      exact row_base this (by omega)
    · exact ((Off.refl (fun _ => False) w).alloc _).trans HF.out (fun _ _ h => h)
end
end Pm
end Go.Proofs.Ythfkbfbchoekjaa
