/- The device without its memory: what its calls do to it, and what always holds of it. -/
import Derived.Test.YthfkbfbchoekjaaPmStore
namespace Go.Proofs.Ythfkbfbchoekjaa
open Go.RowKit Go.MapKept
namespace Pm

abbrev Pend := List (Nat × List Int × Nat)
def pget : Pend → Nat → Option (List Int × Nat)
  | [], _ => none
  | p :: r, k => if p.1 = k then some p.2 else pget r k
def pset : Pend → Nat → List Int × Nat → Pend
  | [], _, _ => []
  | p :: r, k, v => if p.1 = k then (k, v) :: r else p :: pset r k v
def pdel : Pend → Nat → Pend
  | [], _ => []
  | p :: r, k => if p.1 = k then r else p :: pdel r k

structure Abs where
  steps : Nat
  stores : Nat
  armed : Bool
  left : Nat
  words : List Int
  pend : Pend
  marked : List Nat

def Ent.abs (e : Ent) : Nat × List Int × Nat := (e.key, e.vals, e.mark)
def Dev.abs (D : Dev) : Abs := ⟨D.steps, D.stores, D.armed, D.left, D.words, D.ents.map Ent.abs, D.marked⟩

def Abs.down (A : Abs) : Bool := A.armed && A.left == 0
def Abs.step (A : Abs) : Abs := { A with steps := A.steps + 1, left := if A.armed then A.left - 1 else A.left }
def Abs.mark (A : Abs) (k : Nat) : Abs :=
  match pget A.pend k with
  | none => A
  | some (vs, m) => { A with pend := pset A.pend k (vs, vs.length - 1), marked := if m = 0 then A.marked ++ [k] else A.marked }
def Abs.settle (A : Abs) (k : Nat) : Abs :=
  match pget A.pend k with
  | none => A
  | some (vs, m) => if m + 1 = vs.length then { A with pend := pdel A.pend k } else { A with pend := pset A.pend k (vs.drop m, 0) }
def Abs.store (A : Abs) (k : Nat) (x : Int) : Abs :=
  { A.step with stores := A.stores + 1, words := A.words.set k x, pend :=
      match pget A.pend k with
      | none => A.pend ++ [(k, [A.words[k]?.getD 0, x], 0)]
      | some (vs, m) => pset A.pend k (vs ++ [x], m) }

/-! the list of what is pending -/
theorem pget_mid {k : Nat} {v : List Int × Nat} {post : Pend} : ∀ {pre : Pend}, k ∉ pre.map (·.1) → pget (pre ++ (k, v) :: post) k = some v
  | [], _ => by simp [pget]
  | p :: r, h => by
    simp only [List.map_cons, List.mem_cons, not_or] at h
    simp only [List.cons_append, pget, if_neg (Ne.symm h.1)]
    exact pget_mid h.2
theorem pset_mid {k : Nat} {v u : List Int × Nat} {post : Pend} : ∀ {pre : Pend}, k ∉ pre.map (·.1) → pset (pre ++ (k, v) :: post) k u = pre ++ (k, u) :: post
  | [], _ => by simp [pset]
  | p :: r, h => by
    simp only [List.map_cons, List.mem_cons, not_or] at h
    simp only [List.cons_append, pset, if_neg (Ne.symm h.1)]
    rw [pset_mid h.2]
theorem pdel_mid {k : Nat} {v : List Int × Nat} {post : Pend} : ∀ {pre : Pend}, k ∉ pre.map (·.1) → pdel (pre ++ (k, v) :: post) k = pre ++ post
  | [], _ => by simp [pdel]
  | p :: r, h => by
    simp only [List.map_cons, List.mem_cons, not_or] at h
    simp only [List.cons_append, pdel, if_neg (Ne.symm h.1)]
    rw [pdel_mid h.2]
theorem pget_none {k : Nat} : ∀ {l : Pend}, pget l k = none ↔ k ∉ l.map (·.1)
  | [] => by simp [pget]
  | p :: r => by
    simp only [pget, List.map_cons, List.mem_cons, not_or]
    split
    · rename_i h; simp [h]
    · rename_i h; rw [pget_none]; exact ⟨fun h2 => ⟨Ne.symm h, h2⟩, fun h2 => h2.2⟩
theorem pget_some {k : Nat} {v : List Int × Nat} : ∀ {l : Pend}, pget l k = some v → ∃ pre post, l = pre ++ (k, v) :: post ∧ k ∉ pre.map (·.1)
  | [], h => by simp [pget] at h
  | p :: r, h => by
    simp only [pget] at h
    split at h
    · rename_i hk
      injection h with h
      refine ⟨[], r, ?_, by simp⟩
      obtain ⟨p1, p2⟩ := p
      simp at hk h
      subst hk h
      rfl
    · rename_i hk
      obtain ⟨pre, post, e, hn⟩ := pget_some h
      refine ⟨p :: pre, post, by rw [e]; rfl, ?_⟩
      simp only [List.map_cons, List.mem_cons, not_or]
      exact ⟨Ne.symm hk, hn⟩
theorem pget_mem {k : Nat} {v : List Int × Nat} {l : Pend} (h : pget l k = some v) : (k, v) ∈ l := by
  obtain ⟨pre, post, rfl, _⟩ := pget_some h
  simp
theorem pset_keys {k : Nat} {u v : List Int × Nat} {l : Pend} (h : pget l k = some v) : (pset l k u).map (·.1) = l.map (·.1) := by
  obtain ⟨pre, post, rfl, hn⟩ := pget_some h
  rw [pset_mid hn]; simp
theorem pget_of_mem {p : Nat × List Int × Nat} {l : Pend} (hk : (l.map (·.1)).Nodup) (h : p ∈ l) : pget l p.1 = some p.2 := by
  obtain ⟨pre, post, rfl⟩ := List.append_of_mem h
  rw [List.map_append, List.map_cons] at hk
  exact pget_mid (nodup_mid hk).1

theorem nodup_lt : ∀ (n : Nat) (l : List Nat), l.Nodup → (∀ x ∈ l, x < n) → l.length ≤ n
  | 0, l, _, h => by
    cases l with
    | nil => simp
    | cons x r => exact absurd (h x (.head _)) (by omega)
  | n + 1, l, hn, h => by
    have ih := nodup_lt n (l.erase n) (hn.erase n) (fun x hx => by
      have hx := (List.Nodup.mem_erase_iff hn).1 hx
      have := h x hx.2
      have := hx.1
      omega)
    rw [List.length_erase] at ih
    split at ih <;> omega

/-- what always holds of a device, M being the marked words that aren't settled yet -/
structure Abs.OkM (A : Abs) (M : List Nat) : Prop where
  keys : (A.pend.map (·.1)).Nodup
  ent : ∀ p ∈ A.pend, p.1 < A.words.length ∧ 2 ≤ p.2.1.length ∧ p.2.2 < p.2.1.length ∧ p.2.1.length ≤ A.stores + 1
  mk0 : M.Nodup
  mk1 : ∀ k ∈ M, ∃ v, pget A.pend k = some v ∧ 0 < v.2
  mk2 : ∀ p ∈ A.pend, 0 < p.2.2 → p.1 ∈ M
  size : A.words.length ≤ 4194304
  cnt : A.stores ≤ A.steps
  few : A.steps < 100000000000
  fuse : A.left < 4611686018427387904
/-- what always holds of a device -/
def Abs.Ok (A : Abs) : Prop := A.OkM A.marked

theorem Abs.OkM.marked_le {A : Abs} {M : List Nat} (h : A.OkM M) : M.length ≤ 4194304 := by
  refine Nat.le_trans (nodup_lt A.words.length M h.mk0 (fun k hk => ?_)) h.size
  obtain ⟨v, hv, _⟩ := h.mk1 k hk
  exact (h.ent _ (pget_mem hv)).1

theorem pget_pset_ne {k k' : Nat} {u : List Int × Nat} (hne : k ≠ k') : ∀ l : Pend, pget (pset l k u) k' = pget l k'
  | [] => rfl
  | p :: r => by
    simp only [pset]
    split
    · rename_i h
      simp only [pget]
      rw [if_neg hne, if_neg (by rw [h]; exact hne)]
    · simp only [pget]
      rw [pget_pset_ne hne r]
theorem pget_pdel_ne {k k' : Nat} (hne : k ≠ k') : ∀ l : Pend, pget (pdel l k) k' = pget l k'
  | [] => rfl
  | p :: r => by
    simp only [pdel]
    split
    · rename_i h
      simp only [pget]
      rw [if_neg (by rw [h]; exact hne)]
    · simp only [pget]
      rw [pget_pdel_ne hne r]
theorem pget_append_ne {k k' : Nat} {v : List Int × Nat} (hne : k ≠ k') : ∀ l : Pend, pget (l ++ [(k, v)]) k' = pget l k'
  | [] => by simp [pget, hne]
  | p :: r => by
    simp only [List.cons_append, pget]
    rw [pget_append_ne hne r]
theorem pget_pset {k : Nat} {u v : List Int × Nat} {l : Pend} (h : pget l k = some v) : pget (pset l k u) k = some u := by
  obtain ⟨pre, post, rfl, hn⟩ := pget_some h
  rw [pset_mid hn, pget_mid hn]
theorem mem_pset {k : Nat} {u v : List Int × Nat} {l : Pend} {p : Nat × List Int × Nat} (h : pget l k = some v) (hk : (l.map (·.1)).Nodup) (hp : p ∈ pset l k u) : p = (k, u) ∨ (p ∈ l ∧ p.1 ≠ k) := by
  obtain ⟨pre, post, rfl, hn⟩ := pget_some h
  rw [pset_mid hn] at hp
  rw [List.map_append, List.map_cons] at hk
  have hm : k ∉ pre.map (·.1) ∧ k ∉ post.map (·.1) := nodup_mid hk
  simp only [List.mem_append, List.mem_cons] at hp ⊢
  rcases hp with hp | hp | hp
  · exact .inr ⟨.inl hp, fun e => hm.1 (List.mem_map.2 ⟨p, hp, e⟩)⟩
  · exact .inl hp
  · exact .inr ⟨.inr (.inr hp), fun e => hm.2 (List.mem_map.2 ⟨p, hp, e⟩)⟩
theorem mem_pdel {k : Nat} {v : List Int × Nat} {l : Pend} {p : Nat × List Int × Nat} (h : pget l k = some v) (hk : (l.map (·.1)).Nodup) (hp : p ∈ pdel l k) : p ∈ l ∧ p.1 ≠ k := by
  obtain ⟨pre, post, rfl, hn⟩ := pget_some h
  rw [pdel_mid hn] at hp
  rw [List.map_append, List.map_cons] at hk
  have hm : k ∉ pre.map (·.1) ∧ k ∉ post.map (·.1) := nodup_mid hk
  simp only [List.mem_append, List.mem_cons] at hp ⊢
  rcases hp with hp | hp
  · exact ⟨.inl hp, fun e => hm.1 (List.mem_map.2 ⟨p, hp, e⟩)⟩
  · exact ⟨.inr (.inr hp), fun e => hm.2 (List.mem_map.2 ⟨p, hp, e⟩)⟩
theorem pdel_keys {k : Nat} {v : List Int × Nat} {l : Pend} (h : pget l k = some v) (hk : (l.map (·.1)).Nodup) : ((pdel l k).map (·.1)).Nodup := by
  obtain ⟨pre, post, rfl, hn⟩ := pget_some h
  rw [pdel_mid hn]
  refine List.Nodup.sublist (List.Sublist.map _ ?_) hk
  exact List.Sublist.append (List.Sublist.refl _) (List.sublist_cons_self _ _)

theorem step_ok {A : Abs} {M : List Nat} (h : A.OkM M) (hs : A.steps + 1 < 100000000000) : A.step.OkM M := {
  keys := h.keys
  ent := h.ent
  mk0 := h.mk0
  mk1 := h.mk1
  mk2 := h.mk2
  size := h.size
  cnt := Nat.le_succ_of_le h.cnt
  few := hs
  fuse := by
    have := h.fuse
    simp only [Abs.step]
    split <;> omega }

theorem mark_ok {A : Abs} (h : A.Ok) (k : Nat) : (A.mark k).Ok := by
  unfold Abs.Ok Abs.mark
  cases hg : pget A.pend k with
  | none => exact h
  | some v =>
    obtain ⟨vs, m⟩ := v
    have he := h.ent _ (pget_mem hg)
    refine ⟨?_, ?_, ?_, ?_, ?_, h.size, h.cnt, h.few, h.fuse⟩
    · simp only [pset_keys hg]; exact h.keys
    · intro p hp
      rcases mem_pset hg h.keys hp with rfl | ⟨hp, _⟩
      · simp only at he ⊢
        omega
      · exact h.ent p hp
    · by_cases hm : m = 0
      · simp only [hm, if_true]
        refine List.nodup_append.2 ⟨h.mk0, by simp, ?_⟩
        intro x hx y hy hxy
        have : y = k := by simpa using hy
        subst this hxy
        obtain ⟨v, hv, h0⟩ := h.mk1 _ hx
        rw [hg] at hv
        injection hv with hv
        subst hv
        simp only at h0
        omega
      · simp only [hm, if_false]; exact h.mk0
    · intro x hx
      by_cases hxk : k = x
      · subst hxk
        exact ⟨_, pget_pset hg, by simp only at he ⊢; omega⟩
      · have hx : x ∈ A.marked := by
          by_cases hm : m = 0
          · simp only [hm, if_true, List.mem_append, List.mem_singleton] at hx
            exact hx.resolve_right (Ne.symm hxk)
          · simpa only [hm, if_false] using hx
        obtain ⟨v, hv, h0⟩ := h.mk1 x hx
        exact ⟨v, by rw [pget_pset_ne hxk]; exact hv, h0⟩
    · intro p hp h0
      rcases mem_pset hg h.keys hp with rfl | ⟨hp, _⟩
      · by_cases hm : m = 0
        · simp [hm]
        · simp only [hm, if_false]
          exact h.mk2 _ (pget_mem hg) (by simp only; omega)
      · have := h.mk2 p hp h0
        by_cases hm : m = 0
        · simp [hm, this]
        · simpa only [hm, if_false] using this

theorem settle_ok {A : Abs} {k : Nat} {M : List Nat} (h : A.OkM (k :: M)) : (A.settle k).OkM M := by
  obtain ⟨v, hg, h0⟩ := h.mk1 k (.head _)
  obtain ⟨vs, m⟩ := v
  have he := h.ent _ (pget_mem hg)
  have hnk := List.nodup_cons.1 h.mk0
  simp only at he h0
  unfold Abs.settle
  simp only [hg]
  by_cases hm : m + 1 = vs.length
  · simp only [hm, if_true]
    refine ⟨pdel_keys hg h.keys, ?_, hnk.2, ?_, ?_, h.size, h.cnt, h.few, h.fuse⟩
    · intro p hp
      exact h.ent p (mem_pdel hg h.keys hp).1
    · intro x hx
      obtain ⟨v, hv, h1⟩ := h.mk1 x (.tail _ hx)
      refine ⟨v, ?_, h1⟩
      rw [pget_pdel_ne (fun e => hnk.1 (by rw [e]; exact hx))]
      exact hv
    · intro p hp hp0
      have hp := mem_pdel hg h.keys hp
      exact (List.mem_cons.1 (h.mk2 p hp.1 hp0)).resolve_left hp.2
  · simp only [hm, if_false]
    refine ⟨?_, ?_, hnk.2, ?_, ?_, h.size, h.cnt, h.few, h.fuse⟩
    · simp only [pset_keys hg]; exact h.keys
    · intro p hp
      rcases mem_pset hg h.keys hp with rfl | ⟨hp, _⟩
      · simp only [List.length_drop]
        omega
      · exact h.ent p hp
    · intro x hx
      obtain ⟨v, hv, h1⟩ := h.mk1 x (.tail _ hx)
      refine ⟨v, ?_, h1⟩
      rw [pget_pset_ne (fun e => hnk.1 (by rw [e]; exact hx))]
      exact hv
    · intro p hp hp0
      rcases mem_pset hg h.keys hp with rfl | ⟨hp, hne⟩
      · simp at hp0
      · exact (List.mem_cons.1 (h.mk2 p hp hp0)).resolve_left hne

theorem store_ok {A : Abs} (h : A.Ok) {k : Nat} (hk : k < A.words.length) (x : Int) (hs : A.steps + 1 < 100000000000) : (A.store k x).Ok := by
  have hc := h.cnt
  have hf := (step_ok h hs).fuse
  unfold Abs.Ok Abs.store
  cases hg : pget A.pend k with
  | none =>
    have hn := pget_none.1 hg
    refine ⟨?_, ?_, h.mk0, ?_, ?_, by simpa [Abs.step] using h.size, Nat.succ_le_succ h.cnt, hs, hf⟩
    · simp only [List.map_append]
      refine List.nodup_append.2 ⟨h.keys, by simp, ?_⟩
      intro a ha b hb hab
      have : b = k := by simpa using hb
      subst this hab
      exact hn ha
    · intro p hp
      rcases List.mem_append.1 hp with hp | hp
      · have := h.ent p hp
        simp only [List.length_set]
        omega
      · rw [List.mem_singleton.1 hp]
        simp only [List.length_set, List.length_cons, List.length_nil]
        omega
    · intro y hy
      obtain ⟨v, hv, h0⟩ := h.mk1 y hy
      refine ⟨v, ?_, h0⟩
      rw [pget_append_ne (fun e => by subst e; rw [hg] at hv; cases hv)]
      exact hv
    · intro p hp hp0
      rcases List.mem_append.1 hp with hp | hp
      · exact h.mk2 p hp hp0
      · rw [List.mem_singleton.1 hp] at hp0
        simp at hp0
  | some v =>
    obtain ⟨vs, m⟩ := v
    have he := h.ent _ (pget_mem hg)
    refine ⟨?_, ?_, h.mk0, ?_, ?_, by simpa [Abs.step] using h.size, Nat.succ_le_succ h.cnt, hs, hf⟩
    · simp only [pset_keys hg]; exact h.keys
    · intro p hp
      rcases mem_pset hg h.keys hp with rfl | ⟨hp, _⟩
      · simp only [List.length_set, List.length_append, List.length_singleton] at he ⊢
        omega
      · have := h.ent p hp
        simp only [List.length_set]
        omega
    · intro y hy
      obtain ⟨v, hv, h0⟩ := h.mk1 y hy
      by_cases hyk : k = y
      · subst hyk
        rw [hg] at hv
        injection hv with hv
        subst hv
        exact ⟨_, pget_pset hg, h0⟩
      · exact ⟨v, by rw [pget_pset_ne hyk]; exact hv, h0⟩
    · intro p hp hp0
      rcases mem_pset hg h.keys hp with rfl | ⟨hp, _⟩
      · exact h.mk2 (k, vs, m) (pget_mem hg) hp0
      · exact h.mk2 p hp hp0

/-- from the list without memory to the entries -/
theorem ents_of_get {D : Dev} {k : Nat} {v : List Int × Nat} (h : pget D.abs.pend k = some v) : ∃ pre post e, D.ents = pre ++ e :: post ∧ e.key = k ∧ e.vals = v.1 ∧ e.mark = v.2 ∧ k ∉ (pre.map Ent.abs).map (·.1) := by
  obtain ⟨p, q, hpq, hn⟩ := pget_some h
  have hpq : D.ents.map Ent.abs = p ++ (k, v) :: q := hpq
  obtain ⟨l1, l2, e1, rfl, e2⟩ := List.map_eq_append_iff.1 hpq
  obtain ⟨e, l3, rfl, e3, e4⟩ := List.map_eq_cons_iff.1 e2
  subst e4
  refine ⟨l1, l3, e, e1, ?_, ?_, ?_, hn⟩
  · exact congrArg (·.1) e3
  · exact congrArg (·.2.1) e3
  · exact congrArg (·.2.2) e3
theorem keys_abs (D : Dev) : D.abs.pend.map (·.1) = D.ents.map Ent.key := by simp [Dev.abs, Ent.abs]

section
variable {w : World} {a : Nat} {D : Dev}
theorem mark_any (h : Rep w a D) (ok : D.abs.Ok) (k : Nat) : Calls Try.prog 56 #[.pointer (some ⟨a, 0, none⟩), .int .i64 (k : Int)] w fun r w' =>
    r = .returned (.tuple #[]) ∧ ∃ D', Res w a D w' D' ∧ D'.abs = D.abs.mark k ∧ D'.wb = D.wb := by
  cases hg : pget D.abs.pend k with
  | none =>
    have hn : k ∉ D.ents.map Ent.key := by rw [← keys_abs]; exact pget_none.1 hg
    refine (mark_no h k hn).mono fun r w' ⟨hr, hres⟩ => ⟨hr, D, hres, ?_, rfl⟩
    simp [Abs.mark, hg]
  | some v =>
    obtain ⟨pre, post, e, he, rfl, hv, hm, hn⟩ := ents_of_get hg
    have hent := ok.ent _ (pget_mem hg)
    have hfew := ok.few
    have hcnt := ok.cnt
    simp only [← hv, ← hm] at hent
    have hst : D.abs.stores ≤ D.abs.steps := hcnt
    have hb : e.vals.length < 1000000000000 := by omega
    have hpend : D.abs.pend = pre.map Ent.abs ++ (e.key, e.vals, e.mark) :: post.map Ent.abs := by
      show D.ents.map Ent.abs = _
      rw [he]; simp [Ent.abs]
    obtain ⟨v1, v2⟩ := v
    simp only at hv hm
    subst hv hm
    rcases Nat.eq_zero_or_pos e.mark with hz | hz
    · have hml := ok.marked_le
      have hml : D.marked.length ≤ 4194304 := hml
      refine (mark_first h pre post e he hz (by omega) (by omega) hb).mono fun r w' ⟨hr, mka, mkc, hres⟩ => ⟨hr, _, hres, ?_, rfl⟩
      simp only [Abs.mark, hg, hz, if_true]
      rw [hpend, pset_mid hn]
      simp [Dev.abs, Ent.abs]
    · refine (mark_again h pre post e he hz (by omega) hb).mono fun r w' ⟨hr, hres⟩ => ⟨hr, _, hres, ?_, rfl⟩
      simp only [Abs.mark, hg]
      rw [hpend, pset_mid hn, if_neg (by omega)]
      simp [Dev.abs, Ent.abs]

theorem settle_any {M : List Nat} (h : Rep w a D) (k : Nat) (ok : D.abs.OkM (k :: M)) : Calls Try.prog 57 #[.pointer (some ⟨a, 0, none⟩), .int .i64 (k : Int)] w fun r w' =>
    r = .returned (.tuple #[]) ∧ ∃ D', Res w a D w' D' ∧ D'.abs = D.abs.settle k ∧ D'.mka = D.mka ∧ D'.mkc = D.mkc ∧ D'.marked = D.marked := by
  cases hg : pget D.abs.pend k with
  | none =>
    obtain ⟨v, hv, _⟩ := ok.mk1 k (.head _)
    rw [hg] at hv
    cases hv
  | some v =>
    obtain ⟨pre, post, e, he, rfl, hv, hm, hn⟩ := ents_of_get hg
    have hent := ok.ent _ (pget_mem hg)
    simp only [← hv, ← hm] at hent
    have hpend : D.abs.pend = pre.map Ent.abs ++ (e.key, e.vals, e.mark) :: post.map Ent.abs := by
      show D.ents.map Ent.abs = _
      rw [he]; simp [Ent.abs]
    obtain ⟨v1, v2⟩ := v
    simp only at hv hm
    subst hv hm
    obtain ⟨cs, _, _, hcap, _⟩ := h.ent e (by rw [he]; simp)
    by_cases hz : e.mark + 1 = e.vals.length
    · refine (settle_one h pre post e he hz hcap).mono fun r w' ⟨hr, hres⟩ => ⟨hr, _, hres, ?_, rfl, rfl, rfl⟩
      simp only [Abs.settle, hg, hz, if_true]
      rw [hpend, pdel_mid hn]
      simp [Dev.abs]
    · refine (settle_more h pre post e he (by omega) hcap).mono fun r w' ⟨hr, hres⟩ => ⟨hr, _, hres, ?_, rfl, rfl, rfl⟩
      simp only [Abs.settle, hg, hz, if_false]
      rw [hpend, pset_mid hn]
      simp [Dev.abs, Ent.abs]

theorem store_any (h : Rep w a D) (ok : D.abs.Ok) (hd : D.abs.down = false) (k : Nat) (x : Int) (hk : k < D.abs.words.length) :
    Calls Try.prog 15 #[.pointer (some ⟨a, 0, none⟩), .int .i64 (k : Int), .int .u64 x] w fun r w' => r = .returned (.bool true) ∧ ∃ D', Res w a D w' D' ∧ D'.abs = D.abs.store k x := by
  have hd : D.down = false := hd
  have h1 : D.steps < 4611686018427387904 := Nat.lt_trans (m := 100000000000) ok.few (by omega)
  have h2 : D.stores < 4611686018427387904 := Nat.lt_of_le_of_lt ok.cnt h1
  have hk : k < D.words.length := hk
  cases hg : pget D.abs.pend k with
  | none =>
    have hn : k ∉ D.ents.map Ent.key := by rw [← keys_abs]; exact pget_none.1 hg
    refine (store_new h x hd k hk hn h1 ok.fuse h2).mono fun r w' ⟨hr, _, _, _, _, _, hres⟩ => ⟨hr, _, hres, ?_⟩
    simp only [Abs.store, hg]
    simp [Dev.abs, Dev.stored, Dev.stepped, Abs.step, Ent.abs, List.getElem?_eq_getElem hk]
    rfl
  | some v =>
    obtain ⟨pre, post, e, he, rfl, hv, hm, hn⟩ := ents_of_get hg
    have hent := ok.ent _ (pget_mem hg)
    have hfew := ok.few
    have hcnt := ok.cnt
    simp only [← hv, ← hm] at hent
    have hb : e.vals.length < 1000000000000 := by omega
    have hpend : D.abs.pend = pre.map Ent.abs ++ (e.key, e.vals, e.mark) :: post.map Ent.abs := by
      show D.ents.map Ent.abs = _
      rw [he]; simp [Ent.abs]
    obtain ⟨v1, v2⟩ := v
    simp only at hv hm
    subst hv hm
    refine (store_old h x hd pre post e he hk h1 ok.fuse h2 hb).mono fun r w' ⟨hr, _, _, _, hres⟩ => ⟨hr, _, hres, ?_⟩
    simp only [Abs.store, hg]
    rw [hpend, pset_mid hn]
    simp [Dev.abs, Dev.stored, Dev.stepped, Abs.step, Ent.abs]
    rfl
end
end Pm
end Go.Proofs.Ythfkbfbchoekjaa
