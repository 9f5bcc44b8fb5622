/- A map's words, a copy, whether two are the same. -/
import Derived.Test.YtblibjjnbbleeaaDoorBmHas
import Derived.Laws.OwnMore
import Derived.OneCell
import Derived.ArgAppend
import Derived.Lib.SliceRun
import Derived.Deep.RegionHeld3
import Derived.BigCall
namespace Go.Proofs.YtblibjjnbbleeaaDoor
open Go.RowKit Go.MapKept
namespace Bm
open Pack (Wds Nts u64_info)

theorem wds_news {W : World} {ad : Addr} {l : List Nat} (h : Wds W (some ad) l) : ∀ j u, (Pack.u64s l)[j]? = some u → W.cell? (ad.add j) = some u := by
  intro j u hu
  have hj : j < l.length := by
    have := (List.getElem?_eq_some_iff.1 hu).1
    simpa [Pack.u64s] using this
  obtain ⟨b, o, e, _, hc⟩ := h.at' j hj
  injection e with e
  subst e
  rw [Go.WideShapes.add_plain, hc, ← hu]
  simp [Pack.u64s, List.getElem?_eq_getElem hj]
theorem u64s_one (l : List Nat) : ∀ u ∈ Pack.u64s l, u.oneCell' = true := by
  intro u hu
  obtain ⟨x, _, rfl⟩ := List.mem_map.1 hu
  rfl
/-- a copy of words: a row of the call's own -/
theorem copy_row {W : World} {A : Option Addr} {l : List Nat} (c : Nat) (h : Wds W A l) (hA : A = none → c = 0) (hl : l.length ≤ 1000000) :
    ∃ (g gc : Nat) (w' : World), (Builtin.append_ #[65, 65] 65 #[.slice (some ⟨W.heap.size, 0, none⟩) 0 0, .slice A l.length c]).run Tryd.prog (W.alloc (.cells #[] 68)) = .ok (.slice (some ⟨g, 0, none⟩) l.length gc) w' ∧
      l.length ≤ gc ∧ W.heap.size ≤ g ∧ Row w' g 68 l.length (fun k => .int .u64 ((l.getD k 0 : Nat) : Int)) ∧ Below W.heap.size W w' := by
  obtain ⟨i0, hi0, hz0, hz1, hz2⟩ := info_parts u64_info
  have hown : (W.alloc (.cells #[] 68)).ownsRow W.heap.size 68 1 (.slice (some ⟨W.heap.size, 0, none⟩) 0 0) 0 [] := World.ownsRow_made W #[] 0 (Nat.le_refl _) (by unfold maxLen; omega) rfl
  have hb := (Below.refl W.heap.size W).alloc (Nat.le_refl _) (.cells #[] 68)
  cases A with
  | none =>
    have hl0 : l = [] := by
      cases l with
      | nil => rfl
      | cons b l =>
        obtain ⟨_, _, e, _⟩ := h.at' 0 (by simp)
        cases e
    subst hl0
    rw [hA rfl]
    exact ⟨_, _, _, run_append_owned_none (P := Tryd.prog) _ W.heap.size 65 65 68 i0 1 Tryd.underlying65 hi0 _ 0 [] hown, by simp, Nat.le_refl _, row_of_is (World.rowIs_alloc W #[] 68 _ (fun i hi => by simp at hi)), hb⟩
  | some ad =>
    obtain ⟨v', w', hr, h2, h3, h4, _⟩ := run_append_own_at (P := Tryd.prog) (W.alloc (.cells #[] 68)) W.heap.size 65 65 68 i0 (.int .u64 0) 1 8 Tryd.underlying65 hi0 hz0 hz1 hz2 rfl (by decide) _ 0 [] hown ad l.length c (Pack.u64s l) (by simp [Pack.u64s]) (wds_news (h.alloc _)) (u64s_one l) (by unfold maxLen; omega) (by omega) (by simp)
    rw [Nat.zero_add, List.nil_append] at h2
    have hne : v' ≠ .slice none 0 0 := fun e => by
      have := (h4.1 e).1
      cases this
    rcases h2.2 with ⟨e, _⟩ | ⟨g, cap, cur, e, hg, hh, hc, _, hsz, ht⟩
    · exact absurd e hne
    · subst e
      refine ⟨g, cap, w', hr, hc, hg, row_of_own h2 (fun i hi => ?_) rfl, hb.grown h3 (by simp) (fun k hk => Pack.row_base_lt hown hk)⟩
      simp [Pack.u64s, List.getD, List.getElem?_eq_getElem hi]

/-- an append whose run is known -/
theorem wpList_append_run {P : Program} {w w' : World} {ops : Array Oper} {rest : List Oper} {o : Oper} {a : Act} {Q : Exit → Act → World → Prop} (hgd : o.guard = none) (s x : Operand) (t : TypeId)
    (ho : o.op = .call { callee := .builtin .append, args := #[s, x], argTypes := #[t, t] }) (v u v' : Value) (hs : a.eval s = v) (hx : a.eval x = u) (hr : (Builtin.append_ #[t, t] o.type #[v, u]).run P w = .ok v' w')
    (h : wpList P ops Q rest (a.put o.dst v') w') : wpList P ops Q (o :: rest) a w := by
  refine wpList_plain hgd fun K hK => ?_
  unfold Oper.wp execOp
  simp only [ho, resolve, invoke, builtin, Sem.run_bind, Sem.run_pure, Result.andThen_ok, List.map_toArray, List.map_cons, List.map_nil, hs, hx, hr]
  exact hK _ _ h

/-- words of the call's own -/
def Wrd (w : World) (K : Nat) (x : Nat → Nat) (e : Ending) (w' : World) : Prop :=
  ∃ g gc : Nat, e = .returned (.slice (some ⟨g, 0, none⟩) K gc) ∧ K ≤ gc ∧ w.heap.size ≤ g ∧ Row w' g 68 K (fun k => .int .u64 (x k : Int)) ∧ Below w.heap.size w w'

section
variable {w : World} {p q K C n : Nat} {f : Nat → Bool}
set_option maxRecDepth 100000 in
set_option maxHeartbeats 1000000 in
theorem clone_any (ad : Addr) (c : Nat) (l : List Nat) (h : Wds w (some ad) l) (hl : l.length ≤ 1000000) :
    Calls Tryd.prog 48 #[.slice (some ad) l.length c] w (Wrd w l.length (fun k => l.getD k 0)) := by
  obtain ⟨g, gc, w', hr, h1, h2, h3, h4⟩ := copy_row c h (fun e => by cases e) hl
  have HR := Lib.hid hr
  have HX := Lib.hid (show Wrd w l.length (fun k => l.getD k 0) (.returned (.slice (some ⟨g, 0, none⟩) l.length gc)) w' from ⟨g, gc, rfl, h1, h2, h3, h4⟩)
  clear hr h1 h2 h3 h4 h
  have q40 : ∀ (w : World) (a : Option Addr) (n c n' c' : Nat), (binOp .eql 65 (.slice a n c) (.slice none n' c')).run Tryd.prog w = .ok (.bool a.isNone) w := fun w a n c n' c' => Lib.run_eql_slice_nil w _ _ a n c n' c' Tryd.underlying65
  go_enter Tryd.func48, Tryd.ntmps48
  go_wp2_with (at_builtin; refine wpList_append_run rfl (.tmp 5) (.tmp 6) 65 rfl _ _ _ rfl rfl HR.out ?_)
  go_ret
  exact HX.out

set_option maxRecDepth 100000 in
theorem words_any (h : Mp w p q K C n f) : Calls Tryd.prog 38 #[.pointer (some ⟨p, 0, none⟩)] w (Wrd w K (wd f)) := by
  have hc1 := h.c1
  have hk := h.kk
  have hmx := h.max
  have hcl := clone_any ⟨q, 0, none⟩ C (wds f K) (h.row.wds (by omega)) (by rw [wds_len]; omega)
  rw [wds_len] at hcl
  have HCL := Lib.hid (hcl.mono fun e w' ⟨g, gc, h1, h2, h3, h4, h5⟩ => (⟨g, gc, h1, h2, h3, h4.congr (fun i hi => by
    have : i < (wds f K).length := by rw [wds_len]; exact hi
    show Value.int .u64 (((wds f K).getD i 0 : Nat) : Int) = Value.int .u64 (wd f i : Int)
    rw [List.getD_eq_getElem?_getD, List.getElem?_eq_getElem this, Option.getD_some, wds_get]), h5⟩ : Wrd w K (wd f) e w'))
  clear hcl h hk hmx
  go_enter Tryd.func38, Tryd.ntmps38
  go_wp2_with fail
  refine HCL.out.mono ?_
  rintro e w' ⟨g, gc, rfl, h2, h3, h4, h5⟩
  have HX := Lib.hid (show Wrd w K (wd f) (.returned (.slice (some ⟨g, 0, none⟩) K gc)) w' from ⟨g, gc, rfl, h2, h3, h4, h5⟩)
  clear h2 h3 h4 h5
  go_wp2
  go_ret
  exact HX.out

/-- a map that the call made -/
def Cpy (w : World) (K n : Nat) (f : Nat → Bool) (e : Ending) (w' : World) : Prop :=
  ∃ p q C : Nat, e = .returned (.pointer (some ⟨p, 0, none⟩)) ∧ w.heap.size ≤ p ∧ w.heap.size ≤ q ∧ Mp w' p q K C n f ∧ Below w.heap.size w w'
theorem below_drew {w w1 : World} (h : Below w.drew.heap.size w.drew w1) : Below w.heap.size w w1 := ⟨h.os, h.tape, h.output, h.size, h.block⟩
theorem mp_box {w1 : World} {g gc : Nat} (hrow : Row w1 g 68 K (fun k => .int .u64 (wd f k : Int))) (hfar : ∀ b, n ≤ b → f b = false) (hm : n ≤ 65534) (hK : K = (n + 63) / 64) (hgc : K ≤ gc) :
    Mp (w1.alloc (.cells #[.int .i64 (n : Int), .slice (some ⟨g, 0, none⟩) K gc] 67)) w1.heap.size g K gc n f :=
  ⟨by simp, Pack.alloc_cell _ _ _ _, Pack.alloc_cell _ _ _ _, hrow.of_block (Below.heap_alloc _ _ _ hrow.lt), Nat.ne_of_gt hrow.lt, hfar, hm, hK, hgc⟩
set_option maxRecDepth 100000 in
set_option maxHeartbeats 1000000 in
theorem copy_any (h : Mp w p q K C n f) : Calls Tryd.prog 23 #[.pointer (some ⟨p, 0, none⟩)] w (Cpy w K n f) := by
  have hc0 := h.c0
  have HW := Lib.hid (words_any h.drew)
  have H := Lib.hid h
  clear h
  go_enter Tryd.func23, Tryd.ntmps23
  go_wp2_with fail
  go_region_held3 (fun W' => W'.cell? ⟨p, 0, none⟩ = some (.int .i64 (n : Int))) (go_keep)
    (first
    | (go_at_call 38
       with_reducible refine HW.out.mono ?_
       rintro e w1 ⟨g, gc, rfl, h2, h3, h4, h5⟩
       have HB := Lib.hid (below_drew h5)
       have HR := Lib.hid h4
       have HG := Lib.hid h3
       have hk0 := (h5.cell (p := ⟨p, 0, none⟩) H.out.lt).trans hc0
       clear h3 h4 h5))
  have HX := Lib.hid (mp_box HR.out H.out.far H.out.max H.out.hK h2)
  have HBB := Lib.hid (HB.out.alloc HB.out.size (.cells #[.int .i64 (n : Int), .slice (some ⟨g, 0, none⟩) K gc] 67))
  go_wp2
  go_ret
  exact ⟨w1.heap.size, g, gc, rfl, HB.out.size, HG.out, HX.out, HBB.out⟩

set_option maxHeartbeats 1600000 in
set_option maxRecDepth 100000 in
theorem equal_any (A B : Option Addr) (c d : Nat) (l m : List Nat) (h : Wds w A l) (g : Wds w B m) :
    Calls Tryd.prog 41 #[.slice A l.length c, .slice B m.length d] w fun e w' => e = .returned (.bool (decide (l = m))) ∧ ∃ n, w' = w.drewN n := by
  have hn := h.len
  have hm := g.len
  have H := Lib.hid h
  have G := Lib.hid g
  clear h g
  by_cases hlen : l.length = m.length
  · go_enter Tryd.func41, Tryd.ntmps41
    go_wp2
    go_loopw [13] (fun i wr => ∃ (k n : Nat), k ≤ l.length ∧ i = .int .i64 (k : Int) ∧ l.take k = m.take k ∧ wr = w.drewN n) (fun i _ => l.length - (intOf i).toNat)
    case atStart => exact ⟨0, 0, Nat.zero_le _, rfl, rfl, rfl⟩
    case round =>
      obtain ⟨k, n, hk, rfl, hs, rfl⟩ := hrel
      have HS := Lib.hid hs
      clear hs
      by_cases hlt : k < l.length
      · have hlt2 : k < m.length := by omega
        obtain ⟨b, o, rfl, hb, hcell⟩ := H.out.at' k hlt
        obtain ⟨b2, o2, rfl, hb2, hcell2⟩ := G.out.at' k hlt2
        have hi0 : (0 : Int) ≤ (k : Int) := by omega
        have hi1 : (k : Int) < (l.length : Int) := by omega
        have hi2 : (k : Int) < (m.length : Int) := by omega
        have HE := Lib.hid (show l.take (k + 1) = m.take (k + 1) ↔ l[k] = m[k] by
          rw [List.take_succ_eq_append_getElem hlt, List.take_succ_eq_append_getElem (l := m) hlt2, HS.out, List.append_right_inj]
          simp)
        generalize l[k] = x at *
        generalize m[k] = y at *
        by_cases hxy : x = y
        · subst hxy
          have HE1 := Lib.hid (HE.out.2 rfl)
          clear HE
          go_wp2
          go_quiet (fail)
          go_wp2
          refine ⟨⟨k + 1, n + nq, by omega, by go_num, HE1.out, rfl⟩, by simp [intOf]; omega⟩
        · have hne : ¬ (x : Int) = (y : Int) := by omega
          go_wp2
          go_quiet (fail)
          go_wp2
          go_ret
          refine ⟨?_, n + nq, World.drewN_drewN _ _ _⟩
          have : ¬ l = m := fun h => hxy (HE.out.1 (by rw [h]))
          rw [decide_eq_false this]
          rfl
      · obtain rfl : k = l.length := by omega
        have he : l = m := by
          have := HS.out
          rwa [List.take_length, hlen, List.take_length] at this
        go_wp2
        go_ret
        refine ⟨?_, n, rfl⟩
        rw [decide_eq_true he]
        rfl
  · have hne : ¬ (l.length : Int) = (m.length : Int) := by omega
    have hlm : ¬ l = m := fun h => hlen (by rw [h])
    go_enter Tryd.func41, Tryd.ntmps41
    go_wp2
    go_ret
    refine ⟨?_, 0, rfl⟩
    rw [decide_eq_false hlm]
    rfl

/-! Same. -/
theorem same_nils (w : World) : Calls Tryd.prog 24 #[.pointer none, .pointer none] w fun e w' => e = .returned (.bool true) ∧ w = w' := by
  go_enter Tryd.func24, Tryd.ntmps24
  go_wp2
  go_ret
  exact ⟨rfl, rfl⟩
theorem same_nil_left (w : World) (p : Nat) : Calls Tryd.prog 24 #[.pointer none, .pointer (some ⟨p, 0, none⟩)] w fun e w' => e = .returned (.bool false) ∧ w = w' := by
  go_enter Tryd.func24, Tryd.ntmps24
  go_wp2
  go_ret
  exact ⟨rfl, rfl⟩
theorem same_nil_right (w : World) (p : Nat) : Calls Tryd.prog 24 #[.pointer (some ⟨p, 0, none⟩), .pointer none] w fun e w' => e = .returned (.bool false) ∧ w = w' := by
  go_enter Tryd.func24, Tryd.ntmps24
  go_wp2
  go_ret
  exact ⟨rfl, rfl⟩
set_option maxRecDepth 100000 in
set_option maxHeartbeats 1000000 in
theorem same_len {p' q' K' C' n' : Nat} {g : Nat → Bool} (h : Mp w p q K C n f) (h' : Mp w p' q' K' C' n' g) (hn : n ≠ n') :
    Calls Tryd.prog 24 #[.pointer (some ⟨p, 0, none⟩), .pointer (some ⟨p', 0, none⟩)] w fun e w' => e = .returned (.bool false) ∧ ∃ k, w' = w.drewN k := by
  have hc0 := h.c0
  have hd0 := h'.c0
  have hne : ((n : Int) == (n' : Int)) = false := by simp; omega
  clear h h' hn
  go_enter Tryd.func24, Tryd.ntmps24
  go_wp2
  go_quiet (fail)
  go_wp2
  go_ret
  exact ⟨rfl, _, rfl⟩
set_option maxRecDepth 100000 in
set_option maxHeartbeats 1000000 in
theorem same_any {p' q' C' : Nat} {g : Nat → Bool} (h : Mp w p q K C n f) (h' : Mp w p' q' K C' n g) :
    Calls Tryd.prog 24 #[.pointer (some ⟨p, 0, none⟩), .pointer (some ⟨p', 0, none⟩)] w fun e w' => e = .returned (.bool (decide (wds f K = wds g K))) ∧ ∃ k, w' = w.drewN k := by
  have hc0 := h.c0
  have hc1 := h.c1
  have hd0 := h'.c0
  have hd1 := h'.c1
  have hk := h.kk
  have hmx := h.max
  have HE := Lib.hid (fun k => show Calls Tryd.prog 41 #[.slice (some ⟨q, 0, none⟩) K C, .slice (some ⟨q', 0, none⟩) K C'] (w.drewN k) fun e w' => e = .returned (.bool (decide (wds f K = wds g K))) ∧ ∃ n, w' = (w.drewN k).drewN n by
    have := equal_any (w := w.drewN k) (some ⟨q, 0, none⟩) (some ⟨q', 0, none⟩) C C' (wds f K) (wds g K) ((h.row.drewN k).wds (by omega)) ((h'.row.drewN k).wds (by omega))
    rwa [wds_len, wds_len] at this)
  generalize decide (wds f K = wds g K) = b at *
  clear h h' hk hmx
  go_enter Tryd.func24, Tryd.ntmps24
  go_wp2
  go_quiet ((go_at_call 41; exact Calls.quiet_of (HE.out _)))
  go_wp2
  go_ret
  exact ⟨rfl, _, rfl⟩
theorem wds_eq {g : Nat → Bool} (hf : ∀ b, n ≤ b → f b = false) (hg : ∀ b, n ≤ b → g b = false) (hK : n ≤ 64 * K) : wds f K = wds g K ↔ f = g := by
  constructor
  · intro h
    funext b
    by_cases hb : n ≤ b
    · rw [hf b hb, hg b hb]
    · have := congrArg (·[b / 64]?) h
      have hl : b / 64 < K := by omega
      simp only [wds, List.getElem?_map, List.getElem?_range hl, Option.map_some, Option.some.injEq] at this
      have := wd_inj this (b % 64) (Nat.mod_lt _ (by omega))
      rwa [show 64 * (b / 64) + b % 64 = b by omega] at this
  · rintro rfl
    rfl
end
end Bm
end Go.Proofs.YtblibjjnbbleeaaDoor
