/- Texts laid together: TrkTwin, TrkTwinW, TrkSame, ModChgLaw, CrcArgs, TrkArgs, ModArgs, PatCard. -/
import Derived.Test.YtkhkcfbacnkcnaaGreatDoorMc6
import Derived.Test.YtkhkcfbacnkcnaaGreatDoorMc5
import Derived.Test.YtkhkcfbacnkcnaaGreatDoorMc7
import Derived.Deep.RegionHeld3
import Derived.BigCall
import Derived.Test.YtkhkcfbacnkcnaaGreatDoorMc8
import Derived.Test.YtkhkcfbacnkcnaaGreatDoorMc1
import Derived.Deep.Slices
import Derived.OpenShut
import Derived.ChangeOld
import Derived.Test.YtkhkcfbacnkcnaaGreatDoorTie
import Derived.Test.YtkhkcfbacnkcnaaGreatDoorCards
import Derived.ProofKit
import Derived.Lay
import Derived.LaidMore
import Derived.LaidOnce
import Derived.Stop.Joined
import Derived.ChangeMaps5
import Derived.Test.YtkhkcfbacnkcnaaGreatDoorMc2
import Derived.Test.YtkhkcfbacnkcnaaGreatDoorMc3
import Derived.Test.YtkhkcfbacnkcnaaGreatDoorMc4
/- The program's twin: the same things in new memory. Of the copy, name by name. -/
namespace Go.Proofs.YtkhkcfbacnkcnaaGreatDoor
open Go.RowKit Go.MapKept
namespace Trk
open Tre (Nm Th fi goT kidL)

instance memDec (y : ByteArray) (ks : List ByteArray) : Decidable (y ∈ ks) := decidable_of_iff (∃ k ∈ ks, k = y) (by simp)
/-- what lies at p and below, in blocks of P -/
structure Cp (w : World) (N : Nat) (t : List Th) (L : Nm → Nd) (p : Nm) (P : Nat → Prop) : Prop where
  nod : ∀ n d s, p <+: n → T t n = some (d, s) → Nod w N (L n) (kb t L n) d s
  one : ∀ n v, p <+: n → T t n = some v → (own (L n)).Nodup
  apart : ∀ n m v u, p <+: n → p <+: m → T t n = some v → T t m = some u → n ≠ m → ∀ i ∈ own (L n), i ∉ own (L m)
  low : ∀ n v, p <+: n → T t n = some v → ∀ i ∈ own (L n), P i
theorem Cp.block {w w' : World} {N : Nat} {t : List Th} {L : Nm → Nd} {p : Nm} {P : Nat → Prop} (h : Cp w N t L p P) (hb : ∀ n v, p <+: n → T t n = some v → ∀ i ∈ own (L n), w'.heap[i]? = w.heap[i]?) : Cp w' N t L p P :=
  ⟨fun n d s hp e => (h.nod n d s hp e).block (hb n _ hp e), h.one, h.apart, h.low⟩
theorem Cp.keep {w w' : World} {N : Nat} {t : List Th} {L : Nm → Nd} {p : Nm} {P : Nat → Prop} (h : Cp w N t L p P) (hb : Below w.heap.size w w') : Cp w' N t L p P :=
  h.block fun n v hp e i hi => hb.block i ((h.nod n v.1 v.2 hp e).lt i hi)
theorem Cp.weak {w : World} {N : Nat} {t : List Th} {L : Nm → Nd} {p : Nm} {P P' : Nat → Prop} (h : Cp w N t L p P) (hB : ∀ i, P i → P' i) : Cp w N t L p P' :=
  ⟨h.nod, h.one, h.apart, fun n v hp e i hi => hB i (h.low n v hp e i hi)⟩
theorem Cp.lt {w : World} {N : Nat} {t : List Th} {L : Nm → Nd} {p : Nm} {P : Nat → Prop} (h : Cp w N t L p P) {n : Nm} {v : Bool × ByteArray} (hp : p <+: n) (e : T t n = some v) {i : Nat} (hi : i ∈ own (L n)) : i < w.heap.size := (h.nod n v.1 v.2 hp e).lt i hi
theorem Cp.congr {w : World} {N : Nat} {t : List Th} {L L' : Nm → Nd} {p : Nm} {P : Nat → Prop} (h : Cp w N t L p P) (hL : ∀ n, p <+: n → L' n = L n) : Cp w N t L' p P := by
  have hk : ∀ n, p <+: n → kb t L' n = kb t L n := fun n hp => funext fun x => by
    unfold kb
    rw [hL (n ++ [x]) (hp.trans (List.prefix_append _ _))]
  exact ⟨fun n d s hp e => by rw [hL n hp, hk n hp]; exact h.nod n d s hp e, fun n v hp e => by rw [hL n hp]; exact h.one n v hp e, fun n m v u hn hm en em hne => by rw [hL n hn, hL m hm]; exact h.apart n m v u hn hm en em hne, fun n v hp e => by rw [hL n hp]; exact h.low n v hp e⟩
theorem up_len {t : List Th} (hW : Wf t) {p : Nm} : ∀ (k : Nat) (q : Nm), q.length = k → ∀ {v : Bool × ByteArray}, T t (p ++ q) = some v → ∃ u, T t p = some u := by
  intro k
  induction k with
  | zero =>
    intro q hq v h
    rw [List.eq_nil_of_length_eq_zero hq, List.append_nil] at h
    exact ⟨v, h⟩
  | succ k ih =>
    intro q hq v h
    rcases List.eq_nil_or_concat q with e | ⟨q', x, e⟩
    · rw [e] at hq
      cases hq
    · subst e
      rw [List.concat_eq_append, ← List.append_assoc] at h
      obtain ⟨s, hs⟩ := hW.up _ _ _ h
      exact ih q' (by simpa using hq) hs
theorem up_all {t : List Th} (hW : Wf t) {p : Nm} (q : Nm) {v : Bool × ByteArray} (h : T t (p ++ q) = some v) : ∃ u, T t p = some u := up_len hW _ q rfl h
theorem pre_one {p n : Nm} (h : p <+: n) (hne : n ≠ p) : ∃ y, (p ++ [y]) <+: n := by
  obtain ⟨q, rfl⟩ := h
  cases q with
  | nil => exact absurd (List.append_nil p) hne
  | cons y q => exact ⟨y, ⟨q, by simp⟩⟩
theorem pre_two {p n : Nm} {y z : ByteArray} (h : (p ++ [y]) <+: n) (h' : (p ++ [z]) <+: n) : y = z := by
  obtain ⟨q, rfl⟩ := h
  obtain ⟨q', e⟩ := h'
  have h1 := congrArg (fun l => l[p.length]?) e
  simpa using h1.symm
theorem pre_self {p : Nm} {y : ByteArray} : ¬ (p ++ [y]) <+: p := fun h => by
  have := h.length_le
  rw [List.length_append, List.length_singleton] at this
  omega
theorem pre_kid {p n : Nm} {y z : ByteArray} (h : (p ++ [y]) <+: (n ++ [z])) (hp : p <+: n) (hne : n ≠ p) : (p ++ [y]) <+: n := by
  obtain ⟨q, rfl⟩ := hp
  cases q with
  | nil => exact absurd (List.append_nil p) hne
  | cons x q =>
    have : (p ++ [x]) <+: (p ++ x :: q ++ [z]) := ⟨q ++ [z], by simp⟩
    rw [pre_two h this]
    exact ⟨q, by simp⟩

/-- a thing's twin, under way: these names are still to come -/
structure Tw (w : World) (N : Nat) (t : List Th) (L : Nm → Nd) (p : Nm) (P : Nat → Prop) (ks : List ByteArray) (x : Nd) (d : Bool) (s : ByteArray) (j : Nat) : Prop where
  nod : Nod w j x (fun y => if y ∈ ks then none else kb t L p y) d s
  one : (own x).Nodup
  low : ∀ i ∈ own x, P i
  kid : ∀ y, y ∉ ks → Cp w N t L (p ++ [y]) P
  ap1 : ∀ y n v, y ∉ ks → (p ++ [y]) <+: n → T t n = some v → ∀ i ∈ own (L n), i ∉ own x
  ap2 : ∀ y z n m v u, y ∉ ks → z ∉ ks → y ≠ z → (p ++ [y]) <+: n → (p ++ [z]) <+: m → T t n = some v → T t m = some u → ∀ i ∈ own (L n), i ∉ own (L m)
theorem Tw.keep {w w' : World} {N : Nat} {t : List Th} {L : Nm → Nd} {p : Nm} {P : Nat → Prop} {ks : List ByteArray} {x : Nd} {d : Bool} {s : ByteArray} {j : Nat} (h : Tw w N t L p P ks x d s j) (hb : Below w.heap.size w w') : Tw w' N t L p P ks x d s j :=
  ⟨h.nod.block fun i hi => hb.block i (h.nod.lt i hi), h.one, h.low, fun y hy => (h.kid y hy).keep hb, h.ap1, h.ap2⟩
theorem Tw.blockP {w w' : World} {N : Nat} {t : List Th} {L : Nm → Nd} {p : Nm} {P : Nat → Prop} {ks : List ByteArray} {x : Nd} {d : Bool} {s : ByteArray} {j : Nat} (h : Tw w N t L p P ks x d s j) (hb : ∀ i, P i → i < w.heap.size → w'.heap[i]? = w.heap[i]?) : Tw w' N t L p P ks x d s j :=
  ⟨h.nod.block fun i hi => hb i (h.low i hi) (h.nod.lt i hi), h.one, h.low, fun y hy => (h.kid y hy).block fun _ _ hp e i hi => hb i ((h.kid y hy).low _ _ hp e i hi) ((h.kid y hy).lt hp e hi), h.ap1, h.ap2⟩
theorem tw_new {w : World} {N : Nat} {t : List Th} (hW : Wf t) (L : Nm → Nd) {p : Nm} {P : Nat → Prop} {x : Nd} {d : Bool} {s : ByteArray} (hn : Nod w 0 x (fun _ => none) d s) (h1 : (own x).Nodup) (hl : ∀ i ∈ own x, P i) : Tw w N t L p P (kidL t p) x d s 0 := by
  have no : ∀ y n v, y ∉ kidL t p → (p ++ [y]) <+: n → T t n = some v → False := fun y n v hy hp e => by
    obtain ⟨q, rfl⟩ := hp
    obtain ⟨u, hu⟩ := up_all hW q e
    exact hy ((kidL_mem hW.once).2 (by rw [hu]; rfl))
  have hf : (fun y => if y ∈ kidL t p then none else kb t L p y) = fun _ => none := funext fun y => by
    split
    · rfl
    · rename_i hy
      unfold kb
      cases hv : T t (p ++ [y]) with
      | none => rfl
      | some v => exact (no y _ v hy (List.prefix_refl _) hv).elim
  refine ⟨by rw [hf]; exact hn, h1, hl, fun y hy => ⟨fun n d s hp e => (no y n _ hy hp e).elim, fun n v hp e => (no y n v hy hp e).elim, fun n m v u hn hm en em => (no y n v hy hn en).elim, fun n v hp e => (no y n v hy hp e).elim⟩, fun y n v hy hp e => (no y n v hy hp e).elim, fun y z n m v u hy hz _ hn hm en em => (no y n v hy hn en).elim⟩
/-- a name more -/
theorem Tw.more {w w3 w4 : World} {N : Nat} {t : List Th} {L L3 : Nm → Nd} {p : Nm} {P : Nat → Prop} {ks : List ByteArray} {x : Nd} {d : Bool} {s : ByteArray} {j : Nat} {z : ByteArray} (h : Tw w N t L p P ks x d s j) (hz : z ∈ ks) (hv : ∃ v, T t (p ++ [z]) = some v) (hb : Below w.heap.size w w3) (hc : Cp w3 N t L3 (p ++ [z]) (fun i => w.heap.size ≤ i)) (hB : ∀ i, w.heap.size ≤ i → P i) (hr : PutR w3 j x (fun y => if y ∈ ks then none else kb t L p y) d s z (L3 (p ++ [z])).b w4) :
    ∃ L' x', x'.b = x.b ∧ Tw w4 N t L' p P (but ks z) x' d s (j + 1) := by
  obtain ⟨g, hg, hn, hch⟩ := hr
  obtain ⟨v0, hv0⟩ := hv
  have h3 := h.keep hb
  have hxlt : ∀ i ∈ own x, i < w.heap.size := h.nod.lt
  let L' : Nm → Nd := fun n => if (p ++ [z]) <+: n then L3 n else L n
  have hLz : ∀ n, (p ++ [z]) <+: n → L' n = L3 n := fun n hp => if_pos hp
  have hLo : ∀ n, ¬ (p ++ [z]) <+: n → L' n = L n := fun n hp => if_neg hp
  have hLy : ∀ y n, y ≠ z → (p ++ [y]) <+: n → L' n = L n := fun y n hyz hp => hLo n (fun h' => hyz (pre_two hp h'))
  have hxs : ∀ i ∈ own (⟨x.b, x.A, x.c, some g⟩ : Nd), i ∈ own x ∨ i = w3.heap.size := fun i hi => by
    rw [own_mem] at hi
    simp only [Option.some.injEq] at hi
    rcases hi with hi | hi | hi
    · exact .inl (own_mem.2 (.inl hi))
    · rcases hg with hg | hg
      · exact .inl (own_mem.2 (.inr (.inl (by rw [hg, hi]))))
      · exact .inr (hi.symm.trans hg)
    · exact .inl (own_mem.2 (.inr (.inr hi)))
  have hks : ∀ y, y ∉ but ks z → y = z ∨ y ∉ ks := fun y hy => by
    by_cases e : y = z
    · exact .inl e
    · exact .inr (fun hk => hy (but_mem.2 ⟨e, hk⟩))
  have hblk : ∀ i, i < w3.heap.size → i ∉ own x → w4.heap[i]? = w3.heap[i]? := fun i hi hx => hch.block i hi hx
  have hzx : ∀ n v, (p ++ [z]) <+: n → T t n = some v → ∀ i ∈ own (L3 n), i ∉ own x := fun n v hp e i hi hx => by
    have h1 := hc.low n v hp e i hi
    have h2 := hxlt i hx
    omega
  have hyk : ∀ y n v, y ∉ ks → (p ++ [y]) <+: n → T t n = some v → ∀ i ∈ own (L n), i < w.heap.size := fun y n v hy hp e i hi => (h.kid y hy).lt hp e hi
  refine ⟨L', ⟨x.b, x.A, x.c, some g⟩, rfl, ?_, ?_, ?_, ?_, ?_, ?_⟩
  · have hf : (fun y => if y = z then some (L3 (p ++ [z])).b else if y ∈ ks then none else kb t L p y) = fun y => if y ∈ but ks z then none else kb t L' p y := funext fun y => by
      by_cases e : y = z
      · subst e
        rw [if_pos rfl, if_neg (fun h => (but_mem.1 h).1 rfl)]
        unfold kb
        rw [hv0, hLz _ (List.prefix_refl _)]
        rfl
      · rw [if_neg e]
        by_cases hy : y ∈ ks
        · rw [if_pos hy, if_pos (but_mem.2 ⟨e, hy⟩)]
        · rw [if_neg hy, if_neg (fun h => hy (but_mem.1 h).2)]
          unfold kb
          rw [hLy y _ e (List.prefix_refl _)]
    rw [← hf]
    exact hn
  · have h1 := h.one
    have hgx : x.m = some g ∨ g ∉ own x := by
      rcases hg with hg | hg
      · exact .inl hg
      · refine .inr (fun hx => ?_)
        have := hxlt g hx
        have := hb.size
        omega
    rcases hgx with hgx | hgx
    · have : (⟨x.b, x.A, x.c, some g⟩ : Nd) = x := by cases x; simp at hgx; rw [hgx]
      rw [this]
      exact h1
    · have hb0 : x.b ≠ g := fun e => hgx (own_mem.2 (.inl e.symm))
      unfold own at h1 ⊢
      rw [List.nodup_cons, List.nodup_append] at h1 ⊢
      refine ⟨fun hm => ?_, ?_, h1.2.2.1, ?_⟩
      · rcases List.mem_append.1 hm with hm | hm
        · exact hb0 (by simpa using hm)
        · exact h1.1 (List.mem_append.2 (.inr hm))
      · simp
      · intro a ha b hb' e
        have ha' : a = g := by simpa using ha
        subst ha'
        subst e
        exact hgx (own_mem.2 (.inr (.inr (by simpa using hb'))))
  · intro i hi
    rcases hxs i hi with h1 | h1
    · exact h.low i h1
    · rw [h1]
      exact hB _ hb.size
  · intro y hy
    rcases hks y hy with rfl | hy'
    · refine ((hc.block (w' := w4) fun n v hp e i hi => hblk i (hc.lt hp e hi) (hzx n v hp e i hi)).weak hB).congr hLz
    · by_cases e : y = z
      · subst e
        exact absurd hz hy'
      · refine ((h3.kid y hy').block (w' := w4) fun n v hp ev i hi => hblk i ((h3.kid y hy').lt hp ev hi) (h.ap1 y n v hy' hp ev i hi)).congr (fun n hp => hLy y n e hp)
  · intro y n v hy hp e i hi hx
    rcases hks y hy with rfl | hy'
    · rw [hLz n hp] at hi
      rcases hxs i hx with h1 | h1
      · exact hzx n v hp e i hi h1
      · have := hc.lt hp e hi
        omega
    · have hyz : y ≠ z := fun e => hy' (e ▸ hz)
      rw [hLy y n hyz hp] at hi
      rcases hxs i hx with h1 | h1
      · exact h.ap1 y n v hy' hp e i hi h1
      · have := hyk y n v hy' hp e i hi
        have := hb.size
        omega
  · intro y y' n m v u hy hy' hne hn' hm' en em i hi hi'
    rcases hks y hy with rfl | hk
    · rcases hks y' hy' with rfl | hk'
      · exact hne rfl
      · rw [hLz n hn'] at hi
        rw [hLy y' m (fun e => hne e.symm) hm'] at hi'
        have h1 := hc.low n v hn' en i hi
        have h2 := hyk y' m u hk' hm' em i hi'
        omega
    · have hyz : y ≠ z := fun e => hk (e ▸ hz)
      rw [hLy y n hyz hn'] at hi
      rcases hks y' hy' with rfl | hk'
      · rw [hLz m hm'] at hi'
        have h1 := hc.low m u hm' em i hi'
        have h2 := hyk y n v hk hn' en i hi
        omega
      · have hyz' : y' ≠ z := fun e => hk' (e ▸ hz)
        rw [hLy y' m hyz' hm'] at hi'
        exact h.ap2 y y' n m v u hk hk' hne hn' hm' en em i hi hi'
/-- all names have come -/
theorem Tw.done {w : World} {N : Nat} {t : List Th} {L : Nm → Nd} {p : Nm} {P : Nat → Prop} {x : Nd} {d : Bool} {s : ByteArray} {j : Nat} (h : Tw w N t L p P [] x d s j) (hj : j ≤ N) (hv : T t p = some (d, s)) : ∃ L', (L' p).b = x.b ∧ Cp w N t L' p P := by
  let L' : Nm → Nd := fun n => if n = p then x else L n
  have hp0 : L' p = x := if_pos rfl
  have hn0 : ∀ n, n ≠ p → L' n = L n := fun n hn => if_neg hn
  have hk : ∀ n, p <+: n → kb t L' n = kb t L n := fun n hp => funext fun y => by
    unfold kb
    rw [hn0 (n ++ [y]) (fun e => by
      have h1 := hp.length_le
      have h2 := congrArg List.length e
      simp at h2
      omega)]
  refine ⟨L', by rw [hp0], fun n d' s' hp e => ?_, fun n v hp e => ?_, fun n m v u hn hm en em hne i hi hi' => ?_, fun n v hp e i hi => ?_⟩
  · rw [hk n hp]
    by_cases hnp : n = p
    · subst hnp
      rw [hv] at e
      injection e with e
      injection e with e1 e2
      subst e1 e2
      rw [hp0]
      have := h.nod
      simp only [List.not_mem_nil, if_false] at this
      exact ⟨this.box, this.row, this.map.mono hj⟩
    · rw [hn0 n hnp]
      obtain ⟨y, hy⟩ := pre_one hp hnp
      exact (h.kid y (by simp)).nod n d' s' hy e
  · by_cases hnp : n = p
    · rw [hnp, hp0]
      exact h.one
    · rw [hn0 n hnp]
      obtain ⟨y, hy⟩ := pre_one hp hnp
      exact (h.kid y (by simp)).one n v hy e
  · by_cases hnp : n = p
    · rw [hnp, hp0] at hi
      have hmp : m ≠ p := fun e => hne (hnp.trans e.symm)
      rw [hn0 m hmp] at hi'
      obtain ⟨y, hy⟩ := pre_one hm hmp
      exact h.ap1 y m u (by simp) hy em i hi' hi
    · rw [hn0 n hnp] at hi
      obtain ⟨y, hy⟩ := pre_one hn hnp
      by_cases hmp : m = p
      · rw [hmp, hp0] at hi'
        exact h.ap1 y n v (by simp) hy en i hi hi'
      · rw [hn0 m hmp] at hi'
        obtain ⟨z, hz⟩ := pre_one hm hmp
        by_cases hyz : y = z
        · subst hyz
          exact (h.kid y (by simp)).apart n m v u hy hz en em hne i hi hi'
        · exact h.ap2 y z n m v u (by simp) (by simp) hyz hy hz en em i hi hi'
  · by_cases hnp : n = p
    · rw [hnp, hp0] at hi
      exact h.low i hi
    · rw [hn0 n hnp] at hi
      obtain ⟨y, hy⟩ := pre_one hp hnp
      exact (h.kid y (by simp)).low n v hy e i hi
end Trk
end Go.Proofs.YtkhkcfbacnkcnaaGreatDoor
/- The program's twin and Copy. -/
namespace Go.Proofs.YtkhkcfbacnkcnaaGreatDoor
open Go.RowKit Go.MapKept
namespace Trk
open Tre (Nm Th fi goT kidL)

theorem Rg.blocks {w w' : World} {g r N : Nat} {f : ByteArray → Option Nat} {D : DataW Unit} {ks : List ByteArray} {cnt : Nat} (h : Rg w g r N f D ks cnt) (hg : w'.heap[g]? = w.heap[g]?) (hr : w'.heap[r]? = w.heap[r]?) (hs : w.heap.size ≤ w'.heap.size) : Rg w' g r N f D ks cnt := by
  obtain ⟨left, ⟨es, clock, since, seen, c0, h1, F, h3, h4, h5, rest⟩, h2⟩ := h.rgs
  exact ⟨h.ask.block hg, ⟨left, ⟨es, clock, since, seen, c0, hg.trans h1, F, h3, h4, hr.trans h5, rest⟩, h2⟩, h.once, Nat.lt_of_lt_of_le h.rlt hs, h.ne⟩
/-- a twin that is answered -/
def TwinR (w : World) (N : Nat) (t : List Th) (p : Nm) (e : Ending) (w' : World) : Prop := ∃ L' b, e = .returned (.pointer (some ⟨b, 0, none⟩)) ∧ (L' p).b = b ∧ Cp w' N t L' p (fun i => w.heap.size ≤ i) ∧ Below w.heap.size w w'
theorem twin_box {w w2 : World} {n gc : Nat} {G : Option Addr} {d : Bool} {s : ByteArray} (hb : Below w.heap.size w w2) (hn : s.size = n) (ho : w2.ownsRow w.heap.size 5 1 (.slice G n gc) n (Crc.u8s (Crc.tx s))) (ty : TypeId) :
    Nod (w2.alloc (.cells #[.bool (!d), .slice G n gc, .map none] ty)) 0 ⟨w2.heap.size, G, gc, none⟩ (fun _ => none) d s ∧ (own (⟨w2.heap.size, G, gc, none⟩ : Nd)).Nodup ∧ ∀ i ∈ own (⟨w2.heap.size, G, gc, none⟩ : Nd), w.heap.size ≤ i := by
  subst hn
  have hba := (Below.refl w2.heap.size w2).alloc (Nat.le_refl _) (.cells #[.bool (!d), .slice G s.size gc, .map none] ty)
  refine ⟨⟨⟨ty, heap_alloc_new w2 _⟩, own_low (own_chg ho (Chg.of_below (F := fun _ => False) hba) (fun _ _ h => h)) (Nat.zero_le _), fun x => rfl⟩, ?_, fun i hi => ?_⟩
  · unfold own
    simp only [Option.toList_none, List.nil_append]
    cases hG : G with
    | none => simp
    | some a =>
      rw [hG] at ho
      have := (row_blk ho (k := a.block) rfl).2
      simp
      omega
  · rw [own_mem] at hi
    rcases hi with rfl | hi | hi
    · exact hb.size
    · cases hi
    · cases hG : G with
      | none => rw [hG] at hi; cases hi
      | some a =>
        rw [hG] at hi ho
        have h1 : a.block = i := by simpa using hi
        have := (row_blk ho (k := a.block) rfl).1
        omega

set_option maxRecDepth 100000 in
set_option maxHeartbeats 4000000 in
theorem twin_step (w : World) (N M : Nat) (t : List Th) (L : Nm → Nd) (p : Nm) (v : Bool × ByteArray) (hM : Mem w N t L) (hW : Wf t) (hl : t.length ≤ M) (hM1 : M ≤ 900000) (hv : T t p = some v)
    (rec : ∀ x ∈ kidL t p, ∀ W, Mem W N t L → Calls Tryz.prog 54 #[.pointer (some ⟨(L (p ++ [x])).b, 0, none⟩)] W (TwinR W M t (p ++ [x]))) :
    Calls Tryz.prog 54 #[.pointer (some ⟨(L p).b, 0, none⟩)] w (TwinR w M t p) := by
  obtain ⟨d, s⟩ := v
  have HM := Lib.hid hM
  have HW := Lib.hid hW
  have HV := Lib.hid hv
  have HN := hM.nod _ _ _ hv
  have h0 := HN.c0
  have h1 := HN.c1
  have h2 := HN.c2
  have hk := HN.map
  have hsz := Wf.fsize hW hv
  have HS := Lib.hid hsz
  have hbt : Crc.Bts w.drew (L p).A (Crc.tx s) := Crc.own_bts HN.row.drew (tx_byt s) (by omega)
  have HKL := Lib.hid (show (kidL t p).length ≤ M by
    refine Nat.le_trans ?_ hl
    unfold Tre.kidL
    rw [List.length_map]
    exact List.length_filter_le _ _)
  obtain ⟨n, hn⟩ : ∃ n, n = s.size := ⟨_, rfl⟩
  rw [← hn] at h1 hsz
  have HCL := Lib.hid (bclone_any w.drew (L p).A n (L p).c (Crc.tx s) hbt (by rw [Crc.tx_len, hn]) hsz)
  have HNS := Lib.hid hn
  have HREC := Lib.hid rec
  have HTL := Lib.hid (Crc.tx_len s)
  have hlt := HN.blt
  clear hM HN rec hsz hn hl hbt
  obtain ⟨xb, hxb⟩ : ∃ b, b = (L p).b := ⟨_, rfl⟩
  obtain ⟨xm, hxm⟩ : ∃ m, m = (L p).m := ⟨_, rfl⟩
  obtain ⟨xA, hxA⟩ : ∃ A, A = (L p).A := ⟨_, rfl⟩
  obtain ⟨xc, hxc⟩ : ∃ c, c = (L p).c := ⟨_, rfl⟩
  rw [← hxb, ← hxA, ← hxc] at h1
  rw [← hxb] at h0 hlt ⊢
  rw [← hxb, ← hxm] at h2
  rw [← hxA, ← hxc] at HCL
  have HX := Lib.hid (show xb = (L p).b ∧ xm = (L p).m from ⟨hxb, hxm⟩)
  rw [← hxm] at hk
  have HK := Lib.hid hk
  clear hxb hxm hxA hxc hk
  go_enter Tryz.func54, Tryz.ntmps54
  go_wp2_with fail
  go_region_held3 (fun W' => W'.cell? ⟨xb, 0, none⟩ = some (.bool (!d)) ∧ W'.cell? ⟨xb, 1, none⟩ = some (.slice xA n xc)) (go_keep)
    (first
    | (go_at_call 57
       with_reducible refine HCL.out.mono ?_
       rintro e w2 ⟨G, gc, rfl, ho, hb2⟩
       rw [HTL.out, ← HNS.out] at ho
       rw [HTL.out, ← HNS.out]
       have HB2 := Lib.hid (show Below w.heap.size w w2 from Tre.below_drew hb2)
       have s0 := (Tre.below_drew hb2).cell (p := ⟨xb, 0, none⟩) hlt |>.trans h0
       have s1 := (Tre.below_drew hb2).cell (p := ⟨xb, 1, none⟩) hlt |>.trans h1
       have s2 := (Tre.below_drew hb2).cell (p := ⟨xb, 2, none⟩) hlt |>.trans h2
       have hl2 := Nat.lt_of_lt_of_le hlt (Tre.below_drew hb2).size
       have hne : w2.heap.size ≠ xb := by omega
       have HO := Lib.hid ho
       clear ho hb2))
  obtain ⟨hbn, hbo, hbl⟩ := twin_box (d := d) HB2.out HNS.out.symm HO.out 76
  have HB4 := Lib.hid (HB2.out.alloc HB2.out.size (.cells #[.bool (!d), .slice G n gc, .map none] 76))
  obtain ⟨nb, hnb⟩ : ∃ nb, nb = w2.heap.size := ⟨_, rfl⟩
  rw [← hnb] at hbn hbo hbl
  have HNB := Lib.hid (show nb < (w2.alloc (.cells #[.bool (!d), .slice G n gc, .map none] 76)).heap.size by rw [hnb]; simp)
  have hx2 : (w2.alloc (.cells #[.bool (!d), .slice G n gc, .map none] 76)).cell? ⟨xb, 2, none⟩ = some (.map xm) := by
    rw [World.cell?_alloc_old _ _ _ (by simp only; omega)]
    exact s2
  have hxl : xb < (w2.alloc (.cells #[.bool (!d), .slice G n gc, .map none] 76)).heap.size := by simp; omega
  have HBN := Lib.hid hbn
  have HBO := Lib.hid hbo
  have HBL := Lib.hid hbl
  rw [← hnb]
  clear hbn hbo hbl hnb s0 s1 s2 hl2 hne h0 h1 h2 hlt HO HB2 HCL
  generalize w2.alloc (.cells #[.bool (!d), .slice G n gc, .map none] 76) = w4 at *
  cases xm with
  | none =>
    have hkn : ∀ x, kb t L p x = none := HK.out
    have h0 : kidL t p = [] := by
      cases hl' : kidL t p with
      | nil => rfl
      | cons y r =>
        have := ((kids_of (L := L) hW).1 y).1 (show y ∈ kidL t p by rw [hl']; simp)
        rw [hkn y] at this
        cases this
    have htw := tw_new (N := M) (P := fun i => w.heap.size ≤ i) hW L (p := p) HBN.out HBO.out HBL.out
    rw [h0] at htw
    have hba := (Below.refl w4.heap.size w4).alloc (Nat.le_refl _) (.mapIter none 0 #[] 0)
    obtain ⟨L', hb', hcp⟩ := (htw.keep hba).done (Nat.zero_le _) hv
    have HR := Lib.hid (show TwinR w M t p (.returned (.pointer (some ⟨nb, 0, none⟩))) (w4.alloc (.mapIter none 0 #[] 0)) from ⟨L', nb, rfl, hb', hcp, HB4.out.alloc HB4.out.size _⟩)
    have hrg := run_range_nilMap (P := Tryz.prog) w4 74 _ _ Tryz.underlying74
    have hnx := fun ty => run_next_nilMap (P := Tryz.prog) w4 ty 0 0 #[]
    clear htw hba hb' hcp h0 hkn
    go_wp2_with fail
    go_loopw [5] (fun _ wr => wr = w4.alloc (.mapIter none 0 #[] 0)) (fun _ _ => 0)
    case atStart => rfl
    case round =>
      obtain rfl := hrel
      go_wp2
      go_ret
      exact HR.out
  | some g =>
    obtain ⟨D, hD⟩ : ∃ D, Ask w g N (kb t L p) D := HK.out
    have hgl := hD.own.lt
    obtain ⟨w5, cnt0, hrg, hR, hb5⟩ := range_run (hD.block (w' := w4) (HB4.out.block g hgl)) (kidL_once hW.once p) (kids_of hW).1 (kids_of (L := L) hW).2
    have HR := Lib.hid hR
    have HB5 := Lib.hid (HB4.out.trans (hb5.mono HB4.out.size))
    obtain ⟨r, hr⟩ : ∃ r, r = w4.heap.size := ⟨_, rfl⟩
    rw [← hr] at hrg HR
    have HRR := Lib.hid (show w.heap.size ≤ r by rw [hr]; exact HB4.out.size)
    have htw := tw_new (N := M) (P := fun i => w.heap.size ≤ i ∧ i ≠ r) hW L (p := p) HBN.out HBO.out (fun i hi => ⟨HBL.out i hi, by have := HBN.out.lt i hi; omega⟩)
    have HTW := Lib.hid (htw.keep hb5)
    have hgr : g ≠ r := by have := HB4.out.size; omega
    have HGR := Lib.hid hgr
    clear hD hR hb5 hr htw hgr
    go_wp2_with fail
    go_loopw [5] (fun _ wr => ∃ (cnt : Nat) (ks : List ByteArray) (j : Nat) (L' : Nm → Nd) (x' : Nd), Rg wr g r N (kb t L p) D ks cnt ∧ (∀ z ∈ ks, z ∈ kidL t p) ∧ j + ks.length = (kidL t p).length ∧ x'.b = nb ∧ Tw wr M t L' p (fun i => w.heap.size ≤ i ∧ i ≠ r) ks x' d s j ∧ Below w.heap.size w wr) (fun _ wr => wr.rangeLeft g r)
    case atStart => exact ⟨cnt0, kidL t p, 0, L, _, HR.out, fun z hz => hz, Nat.zero_add _, rfl, HTW.out, HB5.out⟩
    case round =>
      obtain ⟨cnt, ks, j, L', x', hR, hks, hjk, hxb, htw, hbw⟩ := hrel
      rcases next_run hR 0 with ⟨h0, hnx⟩ | ⟨z, c, w6, cnt', hz, hc, hnx, hR2, hlt, hgr, hsz, hen⟩
      · subst h0
        obtain ⟨L2, hb2, hcp⟩ := htw.done (by have := HKL.out; simp at hjk; omega) hv
        have HRES := Lib.hid (show TwinR w M t p (.returned (.pointer (some ⟨nb, 0, none⟩))) wr from ⟨L2, nb, rfl, hb2.trans hxb, hcp.weak (fun i hi => hi.1), hbw⟩)
        clear hR hks hjk hxb htw hbw hb2 hcp
        go_wp2
        go_ret
        exact HRES.out
      · obtain ⟨rfl, v2, hv2⟩ := kb_at hc
        have hzk := hks z hz
        have hrr := HRR.out
        have hb6 : Below w.heap.size w w6 := ⟨hgr.os.trans hbw.os, hgr.tape.trans hbw.tape, hgr.output.trans hbw.output, Nat.le_trans hbw.size hgr.size, fun i hi => (hgr.block i (Nat.lt_of_lt_of_le hi hbw.size) (fun e => by injection e with e; omega)).trans (hbw.block i hi)⟩
        have htw6 := htw.blockP (w' := w6) (fun i hi hl => hgr.block i hl (fun e => hi.2 (by injection e)))
        have HC := Lib.hid (HREC.out z hzk w6 (HM.out.keep hb6))
        have HFIN := Lib.hid (fun (w7 w8 : World) (L3 : Nm → Nd) (hb7 : Below w6.heap.size w6 w7) (hcp3 : Cp w7 M t L3 (p ++ [z]) (fun i => w6.heap.size ≤ i)) (hpr : PutR w7 j x' (fun y => if y ∈ ks then none else kb t L' p y) d s z (L3 (p ++ [z])).b w8) => show ∃ (cnt : Nat) (ks : List ByteArray) (j : Nat) (L' : Nm → Nd) (x' : Nd), (Rg w8 g r N (kb t L p) D ks cnt ∧ (∀ z ∈ ks, z ∈ kidL t p) ∧ j + ks.length = (kidL t p).length ∧ x'.b = nb ∧ Tw w8 M t L' p (fun i => w.heap.size ≤ i ∧ i ≠ r) ks x' d s j ∧ Below w.heap.size w w8) ∧ cnt < wr.rangeLeft g r from by
          obtain ⟨L8, x8, hx8, htw8⟩ := htw6.more hz ⟨v2, hv2⟩ hb7 hcp3 (fun i hi => ⟨Nat.le_trans hb6.size hi, by have := hR2.rlt; omega⟩) hpr
          have hch := hpr
          obtain ⟨_, _, _, hch⟩ := hch
          have hlow := htw6.low
          have hs67 := hb7.size
          have hbl : Below w.heap.size w w8 := (hb6.trans (hb7.mono hb6.size)).trans (hch.below (Nat.le_trans hb6.size hs67) (fun i hi => (hlow i hi).1))
          refine ⟨cnt', but ks z, j + 1, L8, x8, ⟨?_, fun y hy => hks y (but_mem.1 hy).2, ?_, hx8.trans hxb, htw8, hbl⟩, ?_⟩
          · refine (hR2.keep hb7).blocks (hch.block g ?_ (fun hx => ?_)) (hch.block r ?_ (fun hx => (hlow r hx).2 rfl)) hch.size
            · have := hR2.ask.own.lt
              omega
            · have := (hlow g hx).1
              omega
            · have := hR2.rlt
              omega
          · have := (but_perm hR.once hz).length_eq
            simp only [List.length_cons] at this
            omega
          · obtain ⟨left, h1, _⟩ := hR.rgs
            rw [h1.left_eq]
            exact hlt)
        have HPUT := Lib.hid (fun (w7 : World) (hb7 : Below w6.heap.size w6 w7) (b3 : Nat) => show Calls Tryz.prog 82 #[.pointer (some ⟨nb, 0, none⟩), .string z, .pointer (some ⟨b3, 0, none⟩)] w7 (fun e w' => e = .returned (.tuple #[]) ∧ PutR w7 j x' (fun y => if y ∈ ks then none else kb t L' p y) d s z b3 w') from by
          have h7 := htw6.keep hb7
          rw [← hxb]
          exact tput_any w7 j x' _ d s z b3 h7.nod h7.one (kid_size hW ((kidL_mem hW.once).1 hzk)) (by have := HKL.out; omega))
        clear hR hks hjk hxb htw hbw htw6 hb6 hR2 hlt hgr hsz hz hc hv2 hzk hrr
        generalize (L (p ++ [z])).b = c at *
        go_wp2_with fail
        refine HC.out.mono ?_
        rintro e w7 ⟨L3, b3, rfl, hb3, hcp3, hb7⟩
        have HF7 := Lib.hid (fun w8 hpr => HFIN.out w7 w8 L3 hb7 hcp3 hpr)
        rw [hb3] at HF7
        have HP7 := Lib.hid (HPUT.out w7 hb7 b3)
        clear hb3 hcp3 hb7
        go_wp2_with fail
        refine HP7.out.mono ?_
        rintro e w8 ⟨rfl, hpr⟩
        obtain ⟨cnt2, ks2, j2, L8, x8, hrel2, hlt2⟩ := HF7.out w8 hpr
        have HREL := Lib.hid hrel2
        have HLT2 := Lib.hid hlt2
        clear hpr hrel2 hlt2
        go_wp2
        refine ⟨⟨cnt2, ks2, j2, L8, x8, HREL.out⟩, ?_⟩
        have := HLT2.out
        obtain ⟨left, h1, _⟩ := HREL.out.1.rgs
        rw [h1.left_eq]
        exact this

theorem twin_any : ∀ (k : Nat) (w : World) (N M : Nat) (t : List Th) (L : Nm → Nd) (p : Nm) (v : Bool × ByteArray), Mem w N t L → Wf t → t.length ≤ M → M ≤ 900000 → T t p = some v → 64 ≤ p.length + k →
    Calls Tryz.prog 54 #[.pointer (some ⟨(L p).b, 0, none⟩)] w (TwinR w M t p) := by
  intro k
  induction k with
  | zero =>
    intro w N M t L p v hM hW hl hM1 hv hk
    refine twin_step w N M t L p v hM hW hl hM1 hv (fun x hx W hMW => ?_)
    obtain ⟨u, hu⟩ := Option.isSome_iff_exists.1 ((kidL_mem hW.once).1 hx)
    have := (hW.nm _ (T_mem (by simp) hu)).2.1
    simp at this
    omega
  | succ k ih =>
    intro w N M t L p v hM hW hl hM1 hv hk
    refine twin_step w N M t L p v hM hW hl hM1 hv (fun x hx W hMW => ?_)
    obtain ⟨u, hu⟩ := Option.isSome_iff_exists.1 ((kidL_mem hW.once).1 hx)
    exact ih W N M t L (p ++ [x]) u hMW hW hl hM1 hu (by simp; omega)

/-- a tree's copy -/
def CopyR (w : World) (N : Nat) (t : List Th) (e : Ending) (w' : World) : Prop := ∃ L b, e = .returned (.pointer (some ⟨b, 0, none⟩)) ∧ (L []).b = b ∧ Mem w' N t L ∧ (∀ i, Fp t L i → w.heap.size ≤ i) ∧ Below w.heap.size w w'
set_option maxRecDepth 100000 in
set_option maxHeartbeats 1000000 in
theorem copy_any (w : World) (N M b0 : Nat) (t : List Th) (L : Nm → Nd) (hM : Mem w N t L) (hb : (L []).b = b0) (hW : Wf t) (hl : t.length ≤ M) (hM1 : M ≤ 900000) :
    Calls Tryz.prog 18 #[.pointer (some ⟨b0, 0, none⟩)] w (CopyR w M t) := by
  have HC := Lib.hid (twin_any 64 w N M t L [] _ hM hW hl hM1 (T_root t) (by simp))
  rw [hb] at HC
  clear hM hb
  go_enter Tryz.func18, Tryz.ntmps18
  go_wp2_with fail
  refine HC.out.mono ?_
  rintro e w1 ⟨L1, b1, rfl, hb1, hcp, hbl⟩
  have HN := hcp.nod [] true ByteArray.empty (List.prefix_refl _) (T_root t)
  have h0 := HN.c0
  have h1 := HN.c1
  have h2 := HN.c2
  have hlt := HN.blt
  rw [hb1] at h0 h1 h2 hlt
  have HR := Lib.hid (fun (ty : TypeId) => show CopyR w M t (.returned (.pointer (some ⟨w1.heap.size, 0, none⟩))) (w1.alloc (.cells #[.bool (!true), .slice (L1 []).A ByteArray.empty.size (L1 []).c, .map (L1 []).m] ty)) from by
    let L2 : Nm → Nd := fun n => if n = [] then ⟨w1.heap.size, (L1 []).A, (L1 []).c, (L1 []).m⟩ else L1 n
    have l0 : L2 [] = ⟨w1.heap.size, (L1 []).A, (L1 []).c, (L1 []).m⟩ := if_pos rfl
    have ln : ∀ n, n ≠ [] → L2 n = L1 n := fun n hn => if_neg hn
    have hk : ∀ n, kb t L2 n = kb t L1 n := fun n => funext fun y => by
      unfold kb
      rw [ln (n ++ [y]) (by simp)]
    have hba := (Below.refl w1.heap.size w1).alloc (Nat.le_refl _) (.cells #[.bool (!true), .slice (L1 []).A ByteArray.empty.size (L1 []).c, .map (L1 []).m] ty)
    have hcb := hcp.keep hba
    have hown : ∀ i ∈ own (L2 []), i ∈ own (L1 []) ∨ i = w1.heap.size := fun i hi => by
      rw [l0, own_mem] at hi
      rcases hi with hi | hi | hi
      · exact .inr hi
      · exact .inl (own_mem.2 (.inr (.inl hi)))
      · exact .inl (own_mem.2 (.inr (.inr hi)))
    have hltc : ∀ n v, T t n = some v → ∀ i ∈ own (L1 n), i < w1.heap.size := fun n v e i hi => hcp.lt (List.nil_prefix) e hi
    refine ⟨L2, w1.heap.size, rfl, by rw [l0], ⟨fun n d s e => ?_, fun n v e => ?_, fun n m v u en em hne i hi hi' => ?_⟩, fun i hi => ?_, hbl.alloc hbl.size _⟩
    · rw [hk n]
      have := hcb.nod n d s List.nil_prefix e
      by_cases hn : n = []
      · subst hn
        rw [T_root] at e
        injection e with e
        injection e with e1 e2
        subst e1 e2
        rw [l0]
        exact ⟨⟨ty, heap_alloc_new w1 _⟩, this.row, this.map⟩
      · rw [ln n hn]
        exact this
    · have := hcb.one n v List.nil_prefix e
      by_cases hn : n = []
      · subst hn
        rw [l0]
        unfold own at this ⊢
        rw [List.nodup_cons] at this ⊢
        refine ⟨fun hx => ?_, this.2⟩
        have := hltc [] v e w1.heap.size (List.mem_cons_of_mem _ hx)
        omega
      · rw [ln n hn]
        exact this
    · have hap := hcb.apart
      by_cases hn : n = []
      · subst hn
        have hm : m ≠ [] := fun e => hne e.symm
        rw [ln m hm] at hi'
        rcases hown i hi with h | h
        · exact hap [] m v u List.nil_prefix List.nil_prefix en em hne i h hi'
        · have := hltc m u em i hi'
          omega
      · rw [ln n hn] at hi
        by_cases hm : m = []
        · subst hm
          rcases hown i hi' with h | h
          · exact hap n [] v u List.nil_prefix List.nil_prefix en em hne i hi h
          · have := hltc n v en i hi
            omega
        · rw [ln m hm] at hi'
          exact hap n m v u List.nil_prefix List.nil_prefix en em hne i hi hi'
    · obtain ⟨n, v, e, hi⟩ := hi
      by_cases hn : n = []
      · subst hn
        rcases hown i hi with h | h
        · exact hcp.low [] v List.nil_prefix e i h
        · rw [h]
          exact hbl.size
      · rw [ln n hn] at hi
        exact hcp.low n v List.nil_prefix e i hi)
  clear HN hcp hbl hb1
  generalize L1 [] = x1 at *
  go_wp2
  go_ret
  exact HR.out _
end Trk
end Go.Proofs.YtkhkcfbacnkcnaaGreatDoor
/- The program's Same, of trees that have the same things. -/
namespace Go.Proofs.YtkhkcfbacnkcnaaGreatDoor
open Go.RowKit Go.MapKept
namespace Trk
open Tre (Nm Th fi goT kidL)

theorem Ask.look_ok {w : World} {g N : Nat} {f : ByteArray → Option Nat} {D : DataW Unit} (h : Ask w g N f D) (s : ByteArray) (hs : s.size ≤ maxLen) :
    (Instr.lookup 74 (.map (some g)) (.string s) true).run Tryz.prog w = .ok (.tuple #[pv (f s), .bool (f s).isSome]) w := by
  obtain ⟨v, ps, h1, h2⟩ := h.own.look_ok keyed Tryz.underlying74 (zero_p w) (zd := .nil) (zp := []) rfl (key_of hs)
  rw [h.ask s hs] at h2
  rw [h1, rp_inv h2, h.has s hs]
/-- below p both have the same -/
def Alk (t1 t2 : List Th) (p : Nm) : Prop := ∀ n, p <+: n → T t1 n = T t2 n
theorem Alk.kid {t1 t2 : List Th} {p : Nm} (h : Alk t1 t2 p) (x : ByteArray) : Alk t1 t2 (p ++ [x]) := fun n hn => h n ((List.prefix_append _ _).trans hn)
theorem Alk.kids {t1 t2 : List Th} {p : Nm} (h : Alk t1 t2 p) (h1 : Wf t1) (h2 : Wf t2) : (kidL t1 p).length = (kidL t2 p).length :=
  ((List.perm_ext_iff_of_nodup (kidL_once h1.once p) (kidL_once h2.once p)).2 fun x => by rw [kidL_mem h1.once, kidL_mem h2.once, h _ (List.prefix_append _ _)]).length_eq

set_option maxRecDepth 100000 in
set_option maxHeartbeats 4000000 in
theorem eqf_any (w : World) (N1 N2 : Nat) (t1 t2 : List Th) (L1 L2 : Nm → Nd) (p : Nm) (v : Bool × ByteArray) (hM1 : Mem w N1 t1 L1) (hM2 : Mem w N2 t2 L2) (hW1 : Wf t1) (hW2 : Wf t2) (hv : T t1 p = some v) (hS : Alk t1 t2 p)
    (rec : ∀ x ∈ kidL t1 p, ∀ W, Mem W N1 t1 L1 → Mem W N2 t2 L2 → Calls Tryz.prog 55 #[.pointer (some ⟨(L1 (p ++ [x])).b, 0, none⟩), .pointer (some ⟨(L2 (p ++ [x])).b, 0, none⟩)] W fun e w' => e = .returned (.bool true) ∧ Below W.heap.size W w') :
    Calls Tryz.prog 83 #[.map (L1 p).m, .map (L2 p).m, .func (Fn.func 55) #[] #[]] w fun e w' => e = .returned (.bool true) ∧ Below w.heap.size w w' := by
  obtain ⟨d, s⟩ := v
  have hv2 : T t2 p = some (d, s) := by rw [← hS p (List.prefix_refl _)]; exact hv
  have HN1 := hM1.nod _ _ _ hv
  have HN2 := hM2.nod _ _ _ hv2
  have l1 := fun ty => HN1.kids hW1 ty
  have l2 := fun ty => HN2.kids hW2 ty
  have hkl := hS.kids hW1 hW2
  rw [← hkl] at l2
  have hk := HN1.map
  have HK2 := Lib.hid HN2.map
  have HM1 := Lib.hid hM1
  have HM2 := Lib.hid hM2
  have HREC := Lib.hid rec
  have HS := Lib.hid hS
  clear hM1 hM2 rec HN1 HN2 hkl hS hv2
  generalize hq : (kidL t1 p).length = q at *
  clear hq
  obtain ⟨m1, hm1⟩ : ∃ m, m = (L1 p).m := ⟨_, rfl⟩
  obtain ⟨m2, hm2⟩ : ∃ m, m = (L2 p).m := ⟨_, rfl⟩
  rw [← hm1] at l1 hk ⊢
  rw [← hm2] at l2 HK2 ⊢
  clear hm1 hm2
  go_enter Tryz.func83, Tryz.ntmps83
  cases m1 with
  | none =>
    have hrg := run_range_nilMap (P := Tryz.prog) w 74 _ _ Tryz.underlying74
    have hnx := fun ty => run_next_nilMap (P := Tryz.prog) w ty 0 0 #[]
    have HB := Lib.hid ((Below.refl w.heap.size w).alloc (Nat.le_refl _) (.mapIter none 0 #[] 0))
    clear hk
    go_wp2_with fail
    go_loopw [8] (fun _ wr => wr = w.alloc (.mapIter none 0 #[] 0)) (fun _ _ => 0)
    case atStart => rfl
    case round =>
      obtain rfl := hrel
      go_wp2
      go_ret
      exact ⟨rfl, HB.out⟩
  | some g =>
    obtain ⟨D, hD⟩ := hk
    obtain ⟨w1, cnt0, hrg, hR, hb1⟩ := range_run hD (kidL_once hW1.once p) (kids_of hW1).1 (kids_of (L := L1) hW1).2
    have HR := Lib.hid hR
    have HB1 := Lib.hid hb1
    obtain ⟨r, hr⟩ : ∃ r, r = w.heap.size := ⟨_, rfl⟩
    rw [← hr] at hrg HR
    have HRR := Lib.hid hr
    clear hD hR hb1 hr
    go_wp2_with fail
    go_loopw [8] (fun _ wr => ∃ (cnt : Nat) (ks : List ByteArray), Rg wr g r N1 (kb t1 L1 p) D ks cnt ∧ (∀ z ∈ ks, z ∈ kidL t1 p) ∧ Below w.heap.size w wr) (fun _ wr => wr.rangeLeft g r)
    case atStart => exact ⟨cnt0, kidL t1 p, HR.out, fun z hz => hz, HB1.out⟩
    case round =>
      obtain ⟨cnt, ks, hR, hks, hbw⟩ := hrel
      rcases next_run hR 0 with ⟨h0, hnx⟩ | ⟨z, c, w2, cnt', hz, hc, hnx, hR2, hlt, hgr, hsz, hen⟩
      · have HBW := Lib.hid hbw
        clear hR hks hbw h0
        go_wp2
        go_ret
        exact ⟨rfl, HBW.out⟩
      · obtain ⟨rfl, v2, hv2⟩ := kb_at hc
        have hzk := hks z hz
        have hzs := kid_size hW1 ((kidL_mem hW1.once).1 hzk)
        have hv3 : T t2 (p ++ [z]) = some v2 := by rw [← HS.out _ (List.prefix_append _ _)]; exact hv2
        have hb2 : Below w.heap.size w w2 := ⟨hgr.os.trans hbw.os, hgr.tape.trans hbw.tape, hgr.output.trans hbw.output, Nat.le_trans hbw.size hgr.size, fun i hi => (hgr.block i (Nat.lt_of_lt_of_le hi hbw.size) (fun e => by injection e with e; have := HRR.out; omega)).trans (hbw.block i hi)⟩
        have hkz : kb t2 L2 p z = some (L2 (p ++ [z])).b := by unfold kb; rw [hv3]; rfl
        have hlk : (Instr.lookup 74 (.map m2) (.string z) true).run Tryz.prog w2 = .ok (.tuple #[.pointer (some ⟨(L2 (p ++ [z])).b, 0, none⟩), .bool true]) w2 := by
          have hk2 := HK2.out
          cases m2 with
          | none =>
            rw [hk2 z] at hkz
            cases hkz
          | some g2 =>
            obtain ⟨D2, hD2⟩ := hk2
            have := (hD2.block (w' := w2) (hb2.block g2 hD2.own.lt)).look_ok z hzs
            rw [hkz] at this
            exact this
        have HC := Lib.hid (HREC.out z hzk w2 (HM1.out.keep hb2) (HM2.out.keep hb2))
        have HR2 := Lib.hid hR2
        have HB2 := Lib.hid hb2
        have HKS := Lib.hid (show ∀ y ∈ but ks z, y ∈ kidL t1 p from fun y hy => hks y (but_mem.1 hy).2)
        have HLT := Lib.hid (show cnt' < wr.rangeLeft g r by obtain ⟨left, h1, _⟩ := hR.rgs; rw [h1.left_eq]; exact hlt)
        clear hR hks hbw hR2 hb2 hlt hgr hz hzk hc hv2 hsz hzs hv3 hkz
        generalize (L1 (p ++ [z])).b = c at *
        generalize (L2 (p ++ [z])).b = c2 at *
        go_wp2_with fail
        refine HC.out.mono ?_
        rintro e w3 ⟨rfl, hb3⟩
        have HR3 := Lib.hid (HR2.out.keep hb3)
        have HB3 := Lib.hid (HB2.out.trans (hb3.mono HB2.out.size))
        clear hb3
        go_wp2
        refine ⟨⟨cnt', but ks z, HR3.out, HKS.out, HB3.out⟩, ?_⟩
        have := HLT.out
        obtain ⟨left, h1, _⟩ := HR3.out.rgs
        rw [h1.left_eq]
        exact this

set_option maxRecDepth 100000 in
set_option maxHeartbeats 4000000 in
theorem same_step (w : World) (N1 N2 : Nat) (t1 t2 : List Th) (L1 L2 : Nm → Nd) (p : Nm) (v : Bool × ByteArray) (hM1 : Mem w N1 t1 L1) (hM2 : Mem w N2 t2 L2) (hW1 : Wf t1) (hW2 : Wf t2) (hv : T t1 p = some v) (hS : Alk t1 t2 p)
    (rec : ∀ x ∈ kidL t1 p, ∀ W, Mem W N1 t1 L1 → Mem W N2 t2 L2 → Calls Tryz.prog 55 #[.pointer (some ⟨(L1 (p ++ [x])).b, 0, none⟩), .pointer (some ⟨(L2 (p ++ [x])).b, 0, none⟩)] W fun e w' => e = .returned (.bool true) ∧ Below W.heap.size W w') :
    Calls Tryz.prog 55 #[.pointer (some ⟨(L1 p).b, 0, none⟩), .pointer (some ⟨(L2 p).b, 0, none⟩)] w fun e w' => e = .returned (.bool true) ∧ Below w.heap.size w w' := by
  obtain ⟨d, s⟩ := v
  have hv2 : T t2 p = some (d, s) := by rw [← hS p (List.prefix_refl _)]; exact hv
  have HN1 := hM1.nod _ _ _ hv
  have HN2 := hM2.nod _ _ _ hv2
  have a0 := HN1.c0
  have a1 := HN1.c1
  have a2 := HN1.c2
  have b0 := HN2.c0
  have b1 := HN2.c1
  have b2 := HN2.c2
  have hss := Wf.fsize hW1 hv
  have hbt1 : Crc.Bts w.drew (L1 p).A (Crc.tx s) := Crc.own_bts HN1.row.drew (tx_byt s) (by omega)
  have hbt2 : Crc.Bts w.drew (L2 p).A (Crc.tx s) := Crc.own_bts HN2.row.drew (tx_byt s) (by omega)
  have heq := Ent.equal_any w.drew (L1 p).A (L2 p).A (L1 p).c (L2 p).c s.size s.size (Crc.tx s) (Crc.tx s) hbt1 hbt2 (Crc.tx_len s).symm (Crc.tx_len s).symm
  rw [decide_eq_true rfl] at heq
  have HEQ := Lib.hid heq
  have hef := eqf_any w.drew N1 N2 t1 t2 L1 L2 p (d, s) (hM1.keep (Tre.below_drew (Below.refl _ _))) (hM2.keep (Tre.below_drew (Below.refl _ _))) hW1 hW2 hv hS rec
  have x1l := HN1.blt
  have x2l := HN2.blt
  have HEF := Lib.hid (hef.mono (fun e w' h => show e = .returned (.bool true) ∧ Below w.heap.size w w' ∧ w'.cell? ⟨(L1 p).b, 0, none⟩ = some (.bool (!d)) ∧ w'.cell? ⟨(L1 p).b, 1, none⟩ = some (.slice (L1 p).A s.size (L1 p).c) ∧ w'.cell? ⟨(L1 p).b, 2, none⟩ = some (.map (L1 p).m) ∧ w'.cell? ⟨(L2 p).b, 0, none⟩ = some (.bool (!d)) ∧ w'.cell? ⟨(L2 p).b, 1, none⟩ = some (.slice (L2 p).A s.size (L2 p).c) ∧ w'.cell? ⟨(L2 p).b, 2, none⟩ = some (.map (L2 p).m) from by
    have hb := Tre.below_drew h.2
    exact ⟨h.1, hb, (hb.cell (p := ⟨(L1 p).b, 0, none⟩) x1l).trans a0, (hb.cell (p := ⟨(L1 p).b, 1, none⟩) x1l).trans a1, (hb.cell (p := ⟨(L1 p).b, 2, none⟩) x1l).trans a2, (hb.cell (p := ⟨(L2 p).b, 0, none⟩) x2l).trans b0, (hb.cell (p := ⟨(L2 p).b, 1, none⟩) x2l).trans b1, (hb.cell (p := ⟨(L2 p).b, 2, none⟩) x2l).trans b2⟩))
  clear heq hbt1 hbt2 hM1 hM2 HN1 HN2 rec hef x1l x2l
  generalize L1 p = x1 at *
  generalize L2 p = x2 at *
  generalize s.size = n at *
  have hbb : ((!d) == (!d)) = true := beq_self_eq_true _
  go_enter Tryz.func55, Tryz.ntmps55
  go_wp2_with fail
  go_region_held3 (fun W' => W'.cell? ⟨x1.b, 0, none⟩ = some (.bool (!d)) ∧ W'.cell? ⟨x1.b, 1, none⟩ = some (.slice x1.A n x1.c) ∧ W'.cell? ⟨x1.b, 2, none⟩ = some (.map x1.m) ∧ W'.cell? ⟨x2.b, 0, none⟩ = some (.bool (!d)) ∧ W'.cell? ⟨x2.b, 1, none⟩ = some (.slice x2.A n x2.c) ∧ W'.cell? ⟨x2.b, 2, none⟩ = some (.map x2.m)) (go_keep)
    (first
    | (go_at_call 60
       with_reducible refine HEQ.out.mono ?_
       rintro e w2 ⟨rfl, rfl⟩)
    | (go_at_call 83
       with_reducible refine HEF.out.mono ?_
       rintro e w3 ⟨rfl, hb3, k0, k1, k2, k3, k4, k5⟩
       have HB3 := Lib.hid hb3
       clear hb3))
  go_wp2
  go_ret
  exact ⟨rfl, HB3.out⟩

theorem same_any : ∀ (k : Nat) (w : World) (N1 N2 : Nat) (t1 t2 : List Th) (L1 L2 : Nm → Nd) (p : Nm) (v : Bool × ByteArray), Mem w N1 t1 L1 → Mem w N2 t2 L2 → Wf t1 → Wf t2 → T t1 p = some v → Alk t1 t2 p → 64 ≤ p.length + k →
    Calls Tryz.prog 55 #[.pointer (some ⟨(L1 p).b, 0, none⟩), .pointer (some ⟨(L2 p).b, 0, none⟩)] w fun e w' => e = .returned (.bool true) ∧ Below w.heap.size w w' := by
  intro k
  induction k with
  | zero =>
    intro w N1 N2 t1 t2 L1 L2 p v h1 h2 hW1 hW2 hv hS hk
    refine same_step w N1 N2 t1 t2 L1 L2 p v h1 h2 hW1 hW2 hv hS (fun x hx W _ _ => ?_)
    obtain ⟨u, hu⟩ := Option.isSome_iff_exists.1 ((kidL_mem hW1.once).1 hx)
    have := (hW1.nm _ (T_mem (by simp) hu)).2.1
    simp at this
    omega
  | succ k ih =>
    intro w N1 N2 t1 t2 L1 L2 p v h1 h2 hW1 hW2 hv hS hk
    refine same_step w N1 N2 t1 t2 L1 L2 p v h1 h2 hW1 hW2 hv hS (fun x hx W g1 g2 => ?_)
    obtain ⟨u, hu⟩ := Option.isSome_iff_exists.1 ((kidL_mem hW1.once).1 hx)
    exact ih W N1 N2 t1 t2 L1 L2 (p ++ [x]) u g1 g2 hW1 hW2 hu (hS.kid x) (by simp; omega)

set_option maxRecDepth 100000 in
set_option maxHeartbeats 1000000 in
/-- trees that have the same things are the same -/
theorem Same_yes (w : World) (N1 N2 b1 b2 : Nat) (t1 t2 : List Th) (L1 L2 : Nm → Nd) (h1 : Mem w N1 t1 L1) (h2 : Mem w N2 t2 L2) (hb1 : (L1 []).b = b1) (hb2 : (L2 []).b = b2) (hW1 : Wf t1) (hW2 : Wf t2) (hS : ∀ n, T t1 n = T t2 n) :
    Calls Tryz.prog 20 #[.pointer (some ⟨b1, 0, none⟩), .pointer (some ⟨b2, 0, none⟩)] w fun e w' => e = .returned (.bool true) ∧ Below w.heap.size w w' := by
  have hs := same_any 64 w.drew N1 N2 t1 t2 L1 L2 [] _ (h1.keep (Tre.below_drew (Below.refl _ _))) (h2.keep (Tre.below_drew (Below.refl _ _))) hW1 hW2 (T_root t1) (fun n _ => hS n) (by simp)
  rw [hb1, hb2] at hs
  have HS := Lib.hid hs
  clear hs h1 h2 hb1 hb2 hS
  go_enter Tryz.func20, Tryz.ntmps20
  go_wp2_with fail
  go_region_held3 (fun _ => True) (exact trivial)
    (first
    | (go_at_call 55
       with_reducible refine HS.out.mono ?_
       rintro e w3 ⟨rfl, hb3⟩
       have HB3 := Lib.hid (show Below w.heap.size w w3 from Tre.below_drew hb3)
       clear hb3))
  go_wp2
  go_ret
  exact ⟨rfl, HB3.out⟩
/-- none is the same as none, and as nothing else -/
theorem Same_nil (w : World) : Calls Tryz.prog 20 #[.pointer none, .pointer none] w fun e w' => e = .returned (.bool true) ∧ w' = w := by
  go_enter Tryz.func20, Tryz.ntmps20
  go_wp2
  go_ret
  exact ⟨rfl, rfl⟩
theorem Same_left (w : World) (a : Addr) : Calls Tryz.prog 20 #[.pointer none, .pointer (some a)] w fun e w' => e = .returned (.bool false) ∧ w' = w := by
  go_enter Tryz.func20, Tryz.ntmps20
  go_wp2
  go_ret
  exact ⟨rfl, rfl⟩
theorem Same_right (w : World) (a : Addr) : Calls Tryz.prog 20 #[.pointer (some a), .pointer none] w fun e w' => e = .returned (.bool false) ∧ w' = w := by
  go_enter Tryz.func20, Tryz.ntmps20
  go_wp2
  go_ret
  exact ⟨rfl, rfl⟩
end Trk
end Go.Proofs.YtkhkcfbacnkcnaaGreatDoor
/- Law 14's ModelChanges. -/
namespace Go.Proofs.YtkhkcfbacnkcnaaGreatDoor
open Go.RowKit Go.MapKept
namespace Mod
open Tre (Nm Th doT addT writeT truncT unlinkT rmdirT FewA)
open Trk (Mem Nd Wf Fp Chg CopyR)
open Pat (Txs)

theorem add_same {t : List Th} {p : ByteArray} {d : Bool} (h : (addT t p d).2 ≠ 0) : (addT t p d).1 = t := by
  unfold addT at *
  split at h
  · rfl
  · repeat' split at h
    all_goals first
      | exact absurd rfl h
      | simp_all
theorem write_same {t : List Th} {p : ByteArray} {a : Int} {b : ByteArray} (h : (writeT t p a b).2 ≠ 0) : (writeT t p a b).1 = t := by
  unfold writeT at *
  split
  · rfl
  · rename_i h1
    rw [if_neg h1] at h
    split
    · rfl
    · rename_i h2
      rw [if_neg h2] at h
      split
      · rfl
      · rename_i h3
        rw [if_neg h3] at h
        exact absurd rfl h
theorem trunc_same {t : List Th} {p : ByteArray} {a : Int} (h : (truncT t p a).2 ≠ 0) : (truncT t p a).1 = t := by
  unfold truncT at *
  split
  · rfl
  · rename_i h1
    rw [if_neg h1] at h
    split
    · rfl
    · rename_i h2
      rw [if_neg h2] at h
      exact absurd rfl h
theorem unlink_same {t : List Th} {p : ByteArray} (h : (unlinkT t p).2 ≠ 0) : (unlinkT t p).1 = t := by
  unfold unlinkT at *
  split
  · rfl
  · rename_i h1
    rw [if_neg h1] at h
    exact absurd rfl h
theorem rmdir_same {t : List Th} {p : ByteArray} (h : (rmdirT t p).2 ≠ 0) : (rmdirT t p).1 = t := by
  unfold rmdirT at *
  split
  · rfl
  · rename_i m hm
    rw [hm] at h
    simp only at h
    split
    · rfl
    · rename_i h1
      rw [if_neg h1] at h
      split
      · rfl
      · rename_i h2
        rw [if_neg h2] at h
        split
        · rfl
        · rename_i h3
          rw [if_neg h3] at h
          split
          · rfl
          · rename_i h4
            rw [if_neg h4] at h
            exact absurd rfl h
/-- a deed that doesn't change, or that fails, leaves the tree -/
theorem doM_same {t : List Th} {k : Int} {p : ByteArray} {x n : Int} {v : ByteArray} (h : ¬ (0 ≤ k ∧ k ≤ 5) ∨ (doM t k p x n v).2.1 ≠ 0) : (doM t k p x n v).1 = t := by
  unfold doM at *
  split
  · rename_i hk
    rw [if_pos hk] at h
    obtain ⟨q, rfl⟩ := Int.eq_ofNat_of_zero_le hk.1
    have hq : q ≤ 7 := by omega
    rw [Int.toNat_natCast] at *
    match q, hq, h with
    | 0, _, h => exact add_same (h.resolve_left (fun h1 => h1 ⟨by decide, by decide⟩))
    | 1, _, h => exact add_same (h.resolve_left (fun h1 => h1 ⟨by decide, by decide⟩))
    | 2, _, h => exact write_same (h.resolve_left (fun h1 => h1 ⟨by decide, by decide⟩))
    | 3, _, h => exact trunc_same (h.resolve_left (fun h1 => h1 ⟨by decide, by decide⟩))
    | 4, _, h => exact unlink_same (h.resolve_left (fun h1 => h1 ⟨by decide, by decide⟩))
    | 5, _, h => exact rmdir_same (h.resolve_left (fun h1 => h1 ⟨by decide, by decide⟩))
    | 6, _, h => rfl
    | 7, _, h => rfl
    | q + 8, hq, _ => omega
  · rfl
/-- a deed that changes answers no bytes and no names -/
theorem doM_bare {t : List Th} {k : Int} {p : ByteArray} {x n : Int} {v : ByteArray} (h : 0 ≤ k ∧ k ≤ 5) : (doM t k p x n v).2.2.1 = ⟨#[]⟩ ∧ (doM t k p x n v).2.2.2 = [] := by
  unfold doM
  rw [if_pos ⟨h.1, by omega⟩]
  obtain ⟨q, rfl⟩ := Int.eq_ofNat_of_zero_le h.1
  have hq : q ≤ 5 := by omega
  rw [Int.toNat_natCast] at *
  match q, hq with
  | 0, _ => exact ⟨rfl, rfl⟩
  | 1, _ => exact ⟨rfl, rfl⟩
  | 2, _ => exact ⟨rfl, rfl⟩
  | 3, _ => exact ⟨rfl, rfl⟩
  | 4, _ => exact ⟨rfl, rfl⟩
  | 5, _ => exact ⟨rfl, rfl⟩
  | q + 6, hq => omega

/-- a deed's box -/
structure Dbx (w : World) (b : Nat) (k : Int) (p : ByteArray) (x n : Int) (B : Option Addr) (m d : Nat) : Prop where
  lt : b < w.heap.size
  c0 : w.cell? ⟨b, 0, none⟩ = some (.int .i64 k)
  c1 : w.cell? ⟨b, 1, none⟩ = some (.string p)
  c2 : w.cell? ⟨b, 2, none⟩ = some (.int .i64 x)
  c3 : w.cell? ⟨b, 3, none⟩ = some (.int .i64 n)
  c4 : w.cell? ⟨b, 4, none⟩ = some (.slice B m d)
theorem dbx_new (w : World) (k : Int) (p : ByteArray) (x n : Int) (B : Option Addr) (m d : Nat) : Dbx (w.alloc (.cells #[.int .i64 k, .string p, .int .i64 x, .int .i64 n, .slice B m d] 58)) w.heap.size k p x n B m d :=
  ⟨by simp, Crc.alloc_cell w _ _ 0, Crc.alloc_cell w _ _ 1, Crc.alloc_cell w _ _ 2, Crc.alloc_cell w _ _ 3, Crc.alloc_cell w _ _ 4⟩
theorem Dbx.chg {w w' : World} {F : Nat → Prop} {b : Nat} {k : Int} {p : ByteArray} {x n : Int} {B : Option Addr} {m d : Nat} (h : Dbx w b k p x n B m d) (hc : Chg F w w') (hF : ¬ F b) : Dbx w' b k p x n B m d := by
  have hx := hc.block b h.lt hF
  exact ⟨Nat.lt_of_lt_of_le h.lt hc.size, (World.cell?_of_block (w := w) (a := ⟨b, 0, none⟩) hx).trans h.c0, (World.cell?_of_block (w := w) (a := ⟨b, 1, none⟩) hx).trans h.c1, (World.cell?_of_block (w := w) (a := ⟨b, 2, none⟩) hx).trans h.c2, (World.cell?_of_block (w := w) (a := ⟨b, 3, none⟩) hx).trans h.c3, (World.cell?_of_block (w := w) (a := ⟨b, 4, none⟩) hx).trans h.c4⟩
theorem Dbx.keep {w w' : World} {b : Nat} {k : Int} {p : ByteArray} {x n : Int} {B : Option Addr} {m d : Nat} (h : Dbx w b k p x n B m d) (hb : Below w.heap.size w w') : Dbx w' b k p x n B m d := h.chg (Chg.of_below (F := fun _ => False) hb) (fun h => h)

set_option maxRecDepth 100000 in
set_option maxHeartbeats 4000000 in
theorem changes_law (w : World) (A0 : Option Addr) (n c0 : Nat) (l : List Dd) (hI : Dds w A0 l) (hn : l.length = n) (hr : n * 64 ≤ 140737488351232) :
    Calls Tryz.prog 6 #[.slice A0 n c0] w fun e w' => e = .returned (.bool true) ∧ Below w.heap.size w w' := by
  have HI := Lib.hid hI
  have HN := Lib.hid hn
  have HL := Lib.hid (lives_any w)
  have HR := Lib.hid hr
  clear hI hn hr
  go_enter Tryz.func6, Tryz.ntmps6
  go_wp2_with fail
  refine HL.out.mono ?_
  rintro e w1 ⟨rfl, hb1⟩
  have HB1 := Lib.hid hb1
  have HFW := Lib.hid (few_any w1 A0 n c0 l (HI.out.keep hb1) HN.out HR.out)
  clear hb1
  go_wp2_with fail
  refine HFW.out.mono ?_
  rintro e w2 ⟨rfl, hb2⟩
  have HB2 := Lib.hid (HB1.out.trans (hb2.mono HB1.out.size))
  clear hb2
  by_cases hf : FewD l
  · rw [show decide (FewD l) = true from decide_eq_true hf]
    have HN4 := Lib.hid (show n ≤ 40 by have := hf.2; rw [List.length_map] at this; rw [← HN.out]; exact this)
    have HFA := Lib.hid (show ∀ g ∈ l, g.p.size ≤ 300 ∧ g.b.length ≤ 500 from fun g hg => by have := hf.1 (toAc g) (List.mem_map.2 ⟨g, hg, rfl⟩); exact ⟨this.1, this.2.1⟩)
    clear hf
    go_wp2_with fail
    refine (Trk.new_any w2).mono ?_
    rintro e w3 ⟨rfl, hm, hb3, hs3⟩
    obtain ⟨bt, hbt⟩ : ∃ bt, bt = w2.heap.size := ⟨_, rfl⟩
    have HS := Lib.hid (show Mem w3 0 [] (Trk.L0 bt) ∧ Below w.heap.size w w3 ∧ ∀ i, Fp [] (Trk.L0 bt) i → w.heap.size ≤ i from ⟨by rw [hbt]; exact hm, HB2.out.trans (hb3.mono HB2.out.size), fun i hi => by
      obtain ⟨p, v, _, hi⟩ := hi
      have : i = bt := by simpa [Trk.own, Trk.L0] using hi
      have := HB2.out.size
      omega⟩)
    clear hm hb3 hs3
    rw [← hbt]
    clear hbt
    go_wp2_with fail
    go_loopw [19] (fun ix wr => ∃ (j : Nat) (t : List Th) (L : Nm → Nd), j ≤ n ∧ ix = .int .i64 (j : Int) ∧ t.length ≤ j ∧ Mem wr j t L ∧ (L []).b = bt ∧ Wf t ∧ Below w.heap.size w wr ∧ ∀ i, Fp t L i → w.heap.size ≤ i) (fun ix _ => n - (intOf ix).toNat)
    case atStart => exact ⟨0, [], Trk.L0 bt, Nat.zero_le _, rfl, Nat.le_refl _, HS.out.1, rfl, Trk.wf_nil, HS.out.2⟩
    case round =>
      obtain ⟨j, t, L, hj, rfl, htl, hmem, hroot, hwf, hbel, hfp⟩ := hrel
      have HTL := Lib.hid htl
      have HMEM := Lib.hid hmem
      have HROOT := Lib.hid hroot
      have HWF := Lib.hid hwf
      have HBEL := Lib.hid hbel
      have HFP := Lib.hid hfp
      clear htl hmem hroot hwf hbel hfp HS
      by_cases hlt : j < n
      · have hlti : j < l.length := by rw [HN.out]; exact hlt
        obtain ⟨bi, oi, rfl, hbli, k0, k1, k2, k3, k4⟩ := (HI.out.keep HBEL.out).at' j hlti
        have hok := HI.out.ok _ (List.getElem_mem hlti)
        have hlit := HFA.out _ (List.getElem_mem hlti)
        generalize l[j] = q at *
        obtain ⟨k, p, x, nn, ga, gc, bs⟩ := q
        simp only at k0 k1 k2 k3 k4 hok hlit
        obtain ⟨m, hm⟩ : ∃ m, m = bs.length := ⟨_, rfl⟩
        rw [← hm] at k4 hok hlit
        have HM := Lib.hid hm
        have HOK := Lib.hid hok
        have HLIT := Lib.hid hlit
        have hj0 : (j : Int) < (n : Int) := by omega
        have hm0 : (0 : Int) ≤ (j : Int) := by omega
        clear hm hok hlit hlti
        obtain ⟨b1, hb1⟩ : ∃ b1, b1 = wr.heap.size := ⟨_, rfl⟩
        have hx1 := (Below.refl wr.heap.size wr).alloc (Nat.le_refl _) (.cells #[.int .i64 k, .string p, .int .i64 x, .int .i64 nn, .slice ga m gc] 58)
        have HX := Lib.hid (show Below b1 wr (wr.alloc (.cells #[.int .i64 k, .string p, .int .i64 x, .int .i64 nn, .slice ga m gc] 58)) from by rw [hb1]; exact hx1)
        have HD1 := Lib.hid (show Dbx (wr.alloc (.cells #[.int .i64 k, .string p, .int .i64 x, .int .i64 nn, .slice ga m gc] 58)) b1 k p x nn ga m gc from by rw [hb1]; exact dbx_new wr k p x nn ga m gc)
        have HM1 := Lib.hid (HMEM.out.keep hx1)
        have HFL := Lib.hid (show ∀ i, Fp t L i → i < b1 from fun i hi => by rw [hb1]; exact HMEM.out.lt hi)
        have HB1S := Lib.hid (show w.heap.size ≤ b1 by rw [hb1]; exact HBEL.out.size)
        clear hx1
        go_upto_region 7 with fail
        rw [← hb1]
        generalize wr.alloc (.cells #[.int .i64 k, .string p, .int .i64 x, .int .i64 nn, .slice ga m gc] 58) = w3 at *
        clear hb1 k0 k1 k2 k3 k4
        have HBL3 := Lib.hid (HBEL.out.trans (HX.out.mono HB1S.out))
        have HCP := Lib.hid (Trk.copy_any w3 j 100 bt t L HM1.out HROOT.out HWF.out (by have := HTL.out; have := HN4.out; omega) (by decide))
        go_wp2_with fail
        refine HCP.out.mono ?_
        rintro e w4 ⟨Lc, bc, rfl, hrc, hmc, hfc, hbc⟩
        have HRC := Lib.hid hrc
        have HMC := Lib.hid hmc
        have HFC := Lib.hid hfc
        have HBL4 := Lib.hid (HBL3.out.trans (hbc.mono HBL3.out.size))
        have HD4 := Lib.hid (HD1.out.keep hbc)
        have HM4 := Lib.hid (HM1.out.keep hbc)
        have HDO := Lib.hid (do_any w4 j bt k t L p x nn m gc ga bs HM4.out HROOT.out HWF.out (by have := HLIT.out.1; omega) (by have := HN4.out; omega) HM.out.symm (by have := HLIT.out.2; omega) (HOK.out.2.2.1.keep HBL4.out) HOK.out.2.2.2.2.1 HOK.out.2.2.2.2.2 (by have := HTL.out; have := HN4.out; omega))
        have HSM := Lib.hid (doM_same (t := t) (k := k) (p := p) (x := x) (n := nn) (v := Crc.str bs))
        have HBA := Lib.hid (doM_bare (t := t) (k := k) (p := p) (x := x) (n := nn) (v := Crc.str bs))
        have HWF2 := Lib.hid (wf_doM HWF.out k p x nn (bs := bs) HOK.out.2.2.1.byt)
        have HLN2 := Lib.hid (doM_len t k p x nn (Crc.str bs))
        have hc0 := HD4.out.c0
        have hc1 := HD4.out.c1
        have hc2 := HD4.out.c2
        have hc3 := HD4.out.c3
        have hc4 := HD4.out.c4
        clear hrc hmc hfc hbc
        generalize doM t k p x nn (Crc.str bs) = r at *
        go_wp2_with fail
        refine HDO.out.mono ?_
        rintro e w5 ⟨y, rfl, h1, h2, h3, hyo, hch, L', hmem', hroot', hfp', hgy⟩
        have hd5 := HD4.out.chg hch (fun hf => by have := HFL.out _ hf; omega)
        have hmc5 := HMC.out.chg hch (fun i hi hf => by have := HFL.out _ hf; have := HFC.out i hi; have := HD1.out.lt; omega)
        have hbl5 := HBL4.out.trans (hch.below HBL4.out.size (fun i hi => HFP.out i hi))
        obtain ⟨ye, ya, yc0, yd, yg, yk, yn⟩ := y
        simp only at h1 h2 h3
        unfold An.val at *
        simp only
        have hba5 := (Below.refl w5.heap.size w5).alloc (Nat.le_refl _) (.cells #[.int .i64 ye, .slice ya yd.length yc0, .slice yg yn.length yk] 64)
        have HD6 := Lib.hid (hd5.keep hba5)
        have HMC6 := Lib.hid (hmc5.keep hba5)
        have HM6 := Lib.hid (hmem'.keep hba5)
        have HBL6 := Lib.hid (hbl5.trans (hba5.mono hbl5.size))
        have HROOT6 := Lib.hid (show (L' []).b = bt from hroot'.trans HROOT.out)
        have HFP6 := Lib.hid (show ∀ i, Fp r.1 L' i → w.heap.size ≤ i from fun i hi => (hfp' i hi).elim (HFP.out i) (fun h => Nat.le_trans HBL4.out.size h))
        have HE := Lib.hid h1
        have HSA := Lib.hid (show (¬ (0 ≤ k ∧ k ≤ 5) ∨ ye ≠ 0) → ∀ W, Below (w5.alloc (.cells #[.int .i64 ye, .slice ya yd.length yc0, .slice yg yn.length yk] 64)).heap.size (w5.alloc (.cells #[.int .i64 ye, .slice ya yd.length yc0, .slice yg yn.length yk] 64)) W → Calls Tryz.prog 20 #[.pointer (some ⟨bt, 0, none⟩), .pointer (some ⟨bc, 0, none⟩)] W fun e w' => e = .returned (.bool true) ∧ Below W.heap.size W w' from fun h W hW => Trk.Same_yes W (j + 1) 100 bt bc r.1 t L' Lc (HM6.out.keep hW) (HMC6.out.keep hW) HROOT6.out HRC.out HWF2.out HWF.out (fun nm => by rw [HSM.out (by rw [← HE.out]; exact h)]))
        have HZ := Lib.hid (show (0 ≤ k ∧ k ≤ 5) → yd.length = 0 ∧ yn.length = 0 from fun h => by
          obtain ⟨g1, g2⟩ := HBA.out h
          rw [g1] at h2
          rw [g2] at h3
          subst h3
          have := congrArg ByteArray.size h2
          rw [Crc.str_size] at this
          exact ⟨this, rfl⟩)
        have HLN := Lib.hid (show r.1.length ≤ j + 1 by have := HLN2.out; have := HTL.out; omega)
        have g0 := Crc.alloc_cell w5 #[.int .i64 ye, .slice ya yd.length yc0, .slice yg yn.length yk] 64 0
        have g1 := Crc.alloc_cell w5 #[.int .i64 ye, .slice ya yd.length yc0, .slice yg yn.length yk] 64 1
        have g2 := Crc.alloc_cell w5 #[.int .i64 ye, .slice ya yd.length yc0, .slice yg yn.length yk] 64 2
        have g3 := World.size_alloc w5 (.cells #[.int .i64 ye, .slice ya yd.length yc0, .slice yg yn.length yk] 64)
        simp only [List.getElem?_toArray, List.getElem?_cons_zero, List.getElem?_cons_succ] at g0 g1 g2
        clear h1 h2 h3 hyo hch hmem' hroot' hfp' hgy hd5 hmc5 hbl5 hba5 hc0 hc1 hc2 hc3 hc4 HDO HCP
        generalize yd.length = dl at *
        generalize yn.length = nl at *
        go_upto_region 9 with fail
        generalize hb7 : w5.heap.size = b7 at *
        generalize w5.alloc (.cells #[.int .i64 ye, .slice ya dl yc0, .slice yg nl yk] 64) = w6 at *
        have hlt7 : b7 < w6.heap.size := by omega
        have hd0 := HD6.out.c0
        have hdl := HD6.out.lt
        have HC6 := Lib.hid (changes_any w6 k)
        clear hb7 g3
        by_cases hk : 0 ≤ k ∧ k ≤ 5
        · obtain ⟨hz1, hz2⟩ := HZ.out hk
          subst hz1 hz2
          have hkk : (decide (0 ≤ k) && decide (k ≤ 5)) = true := by rw [decide_eq_true hk.1, decide_eq_true hk.2]; rfl
          rw [hkk] at HC6
          by_cases he : ye = 0
          · subst he
            clear hk hkk HSA
            go_wp2_with fail
            refine HC6.out.mono ?_
            rintro e w7 ⟨rfl, rfl⟩
            go_wp2_with fail
            refine HC6.out.mono ?_
            rintro e w8 ⟨rfl, rfl⟩
            have hn4 := HN4.out
            go_wp2
            exact ⟨⟨j + 1, r.1, L', by omega, by go_num, HLN.out, HM6.out, HROOT6.out, HWF2.out, HBL6.out, HFP6.out⟩, by simp [intOf]; omega⟩
          · have HS6 := Lib.hid (HSA.out (.inr he) w6 (Below.refl _ _))
            have he0 : (ye == 0) = false := beq_eq_false_iff_ne.2 he
            have he1 : (ye != 0) = true := bne_iff_ne.2 he
            have HCC := Lib.hid (fun W : World => show Calls Tryz.prog 28 #[.int .i64 k] W fun e w' => e = .returned (.bool true) ∧ w' = W from by have := changes_any W k; rw [hkk] at this; exact this)
            clear hk hkk he HSA
            go_wp2_with fail
            refine HC6.out.mono ?_
            rintro e w7 ⟨rfl, rfl⟩
            go_wp2_with fail
            refine HS6.out.mono ?_
            rintro e w8 ⟨rfl, hb8⟩
            have HB8 := Lib.hid hb8
            have hd08 := (HD6.out.keep hb8).c0
            have g18 := (hb8.cell (p := ⟨b7, 1, none⟩) hlt7).trans g1
            have g28 := (hb8.cell (p := ⟨b7, 2, none⟩) hlt7).trans g2
            have HC8 := Lib.hid (HCC.out w8)
            clear hb8 hd0 hdl g0 g1 g2
            go_wp2_with fail
            refine HC8.out.mono ?_
            rintro e w9 ⟨rfl, rfl⟩
            have hn4 := HN4.out
            go_wp2
            exact ⟨⟨j + 1, r.1, L', by omega, by go_num, HLN.out, HM6.out.keep HB8.out, HROOT6.out, HWF2.out, HBL6.out.trans (HB8.out.mono HBL6.out.size), HFP6.out⟩, by simp [intOf]; omega⟩
        · have HS6 := Lib.hid (HSA.out (.inl hk) w6 (Below.refl _ _))
          have hkk : (decide (0 ≤ k) && decide (k ≤ 5)) = false := by
            rw [Bool.eq_false_iff]
            intro h
            rw [Bool.and_eq_true] at h
            exact hk ⟨of_decide_eq_true h.1, of_decide_eq_true h.2⟩
          have HCC := Lib.hid (fun W : World => show Calls Tryz.prog 28 #[.int .i64 k] W fun e w' => e = .returned (.bool false) ∧ w' = W from by have := changes_any W k; rw [hkk] at this; exact this)
          rw [hkk] at HC6
          clear hk hkk HSA
          go_wp2_with fail
          refine HC6.out.mono ?_
          rintro e w7 ⟨rfl, rfl⟩
          go_wp2_with fail
          refine HS6.out.mono ?_
          rintro e w8 ⟨rfl, hb8⟩
          have HB8 := Lib.hid hb8
          have hd08 := (HD6.out.keep hb8).c0
          have HC8 := Lib.hid (HCC.out w8)
          clear hb8 hd0 hdl g0 g1 g2
          go_wp2_with fail
          refine HC8.out.mono ?_
          rintro e w9 ⟨rfl, rfl⟩
          have hn4 := HN4.out
          go_wp2
          exact ⟨⟨j + 1, r.1, L', by omega, by go_num, HLN.out, HM6.out.keep HB8.out, HROOT6.out, HWF2.out, HBL6.out.trans (HB8.out.mono HBL6.out.size), HFP6.out⟩, by simp [intOf]; omega⟩
      · have HBZ := Lib.hid HBEL.out
        go_wp2
        go_ret
        exact ⟨rfl, HBZ.out⟩
  · rw [show decide (FewD l) = false from decide_eq_false hf]
    go_wp2_with fail
    refine (lives_any w2).mono ?_
    rintro e w3 ⟨rfl, hb3⟩
    have HB3 := Lib.hid (HB2.out.trans (hb3.mono HB2.out.size))
    clear hb3
    go_wp2
    go_ret
    exact ⟨rfl, HB3.out⟩
end Mod
end Go.Proofs.YtkhkcfbacnkcnaaGreatDoor
/- The laws' arguments, as they are read, opened to lists. -/
namespace Go.Proofs.YtkhkcfbacnkcnaaGreatDoor
open Go.RowKit Go.MapKept Go.ChangeShapes Go.WideShapes Go.Deep
namespace Crc
section
variable {H : Type} {enc : TypeId × Value → H} {W : World} {fuel : Nat} {sp : Nat → Bool} {held : Bool}

theorem cells_u8 : Tryz.prog.cellsOf 5 = 1 := by kernel_rfl
theorem cells_u64 : Tryz.prog.cellsOf 187 = 1 := by kernel_rfl
theorem cells_sl : Tryz.prog.cellsOf 30 = 1 := by kernel_rfl

theorem u8_bounds {k : Int} (h : (Lit.int .u8 k).wf = true) : 0 ≤ k ∧ k < 256 := by
  have := bounds_u8 h
  omega
theorem u64_bounds {k : Int} (h : (Lit.int .u64 k).wf = true) : 0 ≤ k ∧ k < 18446744073709551616 := by
  have := bounds_u64 h
  omega

theorem cell_lt {b o : Nat} {v : Value} (h : W.cell? ⟨b, o, none⟩ = some v) : b < W.heap.size := by
  rcases Nat.lt_or_ge b W.heap.size with h1 | h1
  · exact h1
  · simp [World.cell?, Array.getElem?_eq_none h1] at h

/-- a slice whose elements take one cell each -/
theorem open_ones {t e : TypeId} {v : Value} {x : DataW H × List MemPlace} {α : Type} (d : α) (R : α → Value → Prop) (ht : Tryz.prog.underlying t = some (.slice e)) (h1 : Tryz.prog.cellsOf e = 1)
    (hR : ∀ n u y, DataW.trod enc Tryz.prog W 0 sp held n e [u] = some y → ∃ a, R a u)
    (h : DataW.trod enc Tryz.prog W 0 sp held fuel t [v] = some x) :
    ∃ (A : Option Addr) (l : List α) (c : Nat), v = .slice A l.length c ∧ l.length ≤ c ∧ l.length ≤ 9223372036854775807 ∧ ∀ j (hj : j < l.length), ∃ b o u, A = some ⟨b, o, none⟩ ∧ b < W.heap.size ∧ W.cell? ⟨b, o + j, none⟩ = some u ∧ R l[j] u := by
  rcases open_slice1 ht h1 h with ⟨hcs, _⟩ | ⟨a, len, cap, m, n, V, D, Pl, hcs, _, hl, hm, hmm, _, hi⟩
  · simp at hcs
    exact ⟨none, [], 0, hcs, by simp, by simp, fun j hj => absurd hj (by simp)⟩
  · simp at hcs
    have hlen : len ≤ 9223372036854775807 := by unfold maxLen at hm; omega
    have hjm : ∀ i, i < len → i < m := fun i hi => by rw [hmm]; split <;> omega
    have one : ∀ i, ∃ a' : α, i < len → R a' (V i) := fun i => by
      by_cases hil : i < len
      · obtain ⟨a', ha⟩ := hR _ _ _ (hi i (hjm i hil)).2
        exact ⟨a', fun _ => ha⟩
      · exact ⟨d, fun h => absurd h hil⟩
    obtain ⟨f, hf⟩ := Classical.skolem.1 one
    refine ⟨some a, (List.range len).map f, cap, by rw [List.length_map, List.length_range]; exact hcs, by rw [List.length_map, List.length_range]; exact hl, by rw [List.length_map, List.length_range]; exact hlen, fun j hj => ?_⟩
    rw [List.length_map, List.length_range] at hj
    have hc0 := (hi 0 (hjm 0 (by omega))).1
    obtain ⟨b, o, spot⟩ := a
    have hspot : spot = none := by simpa [Addr.add] using World.cell?_spot hc0
    subst hspot
    have hc := (hi j (hjm j hj)).1
    rw [add_plain] at hc
    refine ⟨b, o, V j, rfl, cell_lt hc, hc, ?_⟩
    rw [List.getElem_map, List.getElem_range]
    exact hf j hj

theorem open_bytes {v : Value} {x : DataW H × List MemPlace} (h : DataW.trod enc Tryz.prog W 0 sp held fuel 30 [v] = some x) : ∃ A l c, v = .slice A l.length c ∧ l.length ≤ c ∧ Bts W A l := by
  obtain ⟨A, l, c, e, hc, hl, ha⟩ := open_ones (α := Nat) 0 (fun k u => u = .int .u8 (k : Int) ∧ k < 256) Tryz.underlying30 cells_u8 (fun n u y hu => by
    obtain ⟨k, e, _, hw⟩ := DataW.trod_int Tryz.underlying5 hu
    simp at e
    have hb := u8_bounds hw
    obtain ⟨q, rfl⟩ := Int.eq_ofNat_of_zero_le hb.1
    exact ⟨q, e, by omega⟩) h
  refine ⟨A, l, c, e, hc, fun b hb => ?_, hl, fun j hj => ?_⟩
  · obtain ⟨j, hj, rfl⟩ := List.getElem_of_mem hb
    obtain ⟨_, _, _, _, _, _, _, h2⟩ := ha j hj
    exact h2
  · obtain ⟨b, o, u, e, h1, h2, rfl, _⟩ := ha j hj
    exact ⟨b, o, e, h1, h2⟩

theorem open_parts {v : Value} {x : DataW H × List MemPlace} (h : DataW.trod enc Tryz.prog W 0 sp held fuel 165 [v] = some x) : ∃ A ps c, v = .slice A ps.length c ∧ Pts W A ps := by
  obtain ⟨A, ps, c, e, hc, hl, ha⟩ := open_ones (α := Prt) ⟨none, 0, []⟩ (fun q u => u = .slice q.a q.l.length q.c ∧ Bts W q.a q.l) Tryz.underlying165 cells_sl (fun n u y hu => by
    obtain ⟨B, l, c, e, _, hb⟩ := open_bytes hu
    exact ⟨⟨B, c, l⟩, e, hb⟩) h
  refine ⟨A, ps, c, e, hl, fun j hj => ?_, fun j hj => ?_⟩
  · obtain ⟨b, o, u, e, h1, h2, rfl, _⟩ := ha j hj
    exact ⟨b, o, e, h1, h2⟩
  · obtain ⟨_, _, _, _, _, _, _, h2⟩ := ha j hj
    exact h2
end
end Crc

theorem laidOut_try : laidOutB Tryz.prog = true := by kernel_rfl
theorem ownKnob_none : ownKnob Tryz.prog.godebug = none := by kernel_rfl
end Go.Proofs.YtkhkcfbacnkcnaaGreatDoor
/- The laws' arguments, as they are read, opened to cells: items. -/
namespace Go.Proofs.YtkhkcfbacnkcnaaGreatDoor
open Go.RowKit Go.MapKept Go.ChangeShapes Go.WideShapes Go.ChangeAt Go.Deep
namespace Trk
open Tre (It Its)
section
variable {H : Type} {enc : TypeId × Value → H} {W : World} {fuel : Nat} {sp : Nat → Bool} {held : Bool}
theorem open_bytes0 {v : Value} {x : DataW H × List MemPlace} (h : DataW.trod enc Tryz.prog W 0 sp held fuel 30 [v] = some x) : ∃ A l c, v = .slice A l.length c ∧ l.length ≤ c ∧ Crc.Bts W A l ∧ (A = none → c = 0) := by
  obtain ⟨A, l, c, e, hc, hb⟩ := Crc.open_bytes h
  refine ⟨A, l, c, e, hc, hb, ?_⟩
  rintro rfl
  subst e
  rcases Go.Deep.open_slice1 Tryz.underlying30 (by kernel_rfl) h with ⟨hcs, _⟩ | ⟨a, len, cap, m, n, V, D, Pl, hcs, _⟩
  · simp at hcs
    omega
  · simp at hcs
theorem cells_item : Tryz.prog.cellsOf 51 = 3 := by kernel_rfl
set_option maxRecDepth 100000 in
/-- an item's three cells -/
theorem open_item {cs : List Value} {x : DataW H × List MemPlace} (h : DataW.trod enc Tryz.prog W 0 sp held fuel 51 cs = some x) :
    ∃ g : It, cs = [.string g.p, .bool g.d, .slice g.a g.b.length g.c] ∧ g.p.size ≤ 9223372036854775807 ∧ g.b.length ≤ g.c ∧ Crc.Bts W g.a g.b ∧ (g.a = none → g.c = 0) := by
  obtain ⟨ys, n, _, _, hlen, hyl, hf⟩ := DataW.trod_struct Tryz.underlying51 h
  rw [cells_item] at hlen
  match cs, hlen with
  | [c0, c1, c2], _ =>
    have g0 : DataW.trod enc Tryz.prog W 0 sp held n 9 [c0] = ys[0]? := hf 0 _ rfl
    have g1 : DataW.trod enc Tryz.prog W 0 sp held n 4 [c1] = ys[1]? := hf 1 _ rfl
    have g2 : DataW.trod enc Tryz.prog W 0 sp held n 30 [c2] = ys[2]? := hf 2 _ rfl
    have hy : ys.length = 3 := hyl
    rw [List.getElem?_eq_getElem (by omega)] at g0 g1 g2
    obtain ⟨s, e0, _, w0⟩ := DataW.trod_string Tryz.underlying9 g0
    obtain ⟨d, e1, _⟩ := DataW.trod_bool Tryz.underlying4 g1
    obtain ⟨A, l, c, e2, h1, h2, h3⟩ := open_bytes0 g2
    simp at e0 e1
    subst e0 e1 e2
    exact ⟨⟨s, d, A, c, l⟩, rfl, by unfold maxLen at w0; show s.size ≤ _; omega, h1, h2, h3⟩

set_option maxRecDepth 100000 in
theorem open_items {v : Value} {x : DataW H × List MemPlace} (h : DataW.trod enc Tryz.prog W 0 sp held fuel 41 [v] = some x) : ∃ A l c, v = .slice A l.length c ∧ Its W A l := by
  rcases Go.Deep.open_slice Tryz.underlying41 h with ⟨hcs, _⟩ | ⟨a, len, cap, m, n, D, Pl, hcs, _, hl, hm, hmm, hx, hi⟩
  · simp at hcs
    exact ⟨none, [], 0, hcs, by simp, fun f hf => by simp at hf, fun j hj => absurd hj (by simp)⟩
  · simp at hcs
    have hlen : len ≤ 9223372036854775807 := by unfold maxLen at hm; omega
    have hjm : ∀ i, i < len → i < m := fun i hi => by rw [hmm]; split <;> omega
    have one : ∀ i, ∃ g : It, i < len → ((W.cell? (a.add (i * 3)) = some (.string g.p) ∧ W.cell? ((a.add (i * 3)).add 1) = some (.bool g.d) ∧ W.cell? ((a.add (i * 3)).add 2) = some (.slice g.a g.b.length g.c)) ∧ (g.p.size ≤ 9223372036854775807 ∧ g.b.length ≤ g.c ∧ Crc.Bts W g.a g.b ∧ (g.a = none → g.c = 0))) := fun i => by
      by_cases hil : i < len
      · obtain ⟨cs', hc, ht⟩ := hi i (hjm i hil)
        rw [cells_item] at hc
        obtain ⟨f, rfl, h1⟩ := open_item ht
        obtain ⟨_, _, hat⟩ := World.cells?_some hc
        have g0 := hat 0 (by omega)
        have g1 := hat 1 (by omega)
        have g2 := hat 2 (by omega)
        simp only [List.getElem?_cons_zero, List.getElem?_cons_succ] at g0 g1 g2
        refine ⟨f, fun _ => ⟨⟨?_, g1, g2⟩, h1⟩⟩
        simpa [Addr.add] using g0
      · exact ⟨⟨⟨#[]⟩, false, none, 0, []⟩, fun h => absurd h hil⟩
    obtain ⟨f, hf⟩ := Classical.skolem.1 one
    have hget : ∀ j (hj : j < ((List.range len).map f).length), ((List.range len).map f)[j] = f j := fun j hj => by rw [List.getElem_map, List.getElem_range]
    refine ⟨some a, (List.range len).map f, cap, by rw [List.length_map, List.length_range]; exact hcs, by rw [List.length_map, List.length_range]; exact hlen, fun g hg => ?_, fun j hj => ?_⟩
    · obtain ⟨i, hi, rfl⟩ := List.mem_map.1 hg
      exact (hf i (List.mem_range.1 hi)).2
    · rw [hget j hj]
      rw [List.length_map, List.length_range] at hj
      have hc0 := (hf 0 (by omega)).1.1
      obtain ⟨b, o, spot⟩ := a
      have hspot : spot = none := by simpa [Addr.add] using World.cell?_spot hc0
      subst hspot
      obtain ⟨g0, g1, g2⟩ := (hf j hj).1
      simp only [Go.WideShapes.add_plain] at g0 g1 g2
      exact ⟨b, o, rfl, Crc.cell_lt g0, g0, g1, g2⟩
end
end Trk
end Go.Proofs.YtkhkcfbacnkcnaaGreatDoor
/- Law 14's arguments, as they are read, opened to cells: deeds. -/
namespace Go.Proofs.YtkhkcfbacnkcnaaGreatDoor
open Go.RowKit Go.MapKept Go.ChangeShapes Go.WideShapes Go.ChangeAt Go.Deep
namespace Mod
section
variable {H : Type} {enc : TypeId × Value → H} {W : World} {fuel : Nat} {sp : Nat → Bool} {held : Bool}
theorem cells_deed : Tryz.prog.cellsOf 58 = 5 := by kernel_rfl
def deedOk (W : World) (g : Dd) : Prop := g.p.size ≤ 9223372036854775807 ∧ g.b.length ≤ g.c ∧ Crc.Bts W g.a g.b ∧ (g.a = none → g.c = 0) ∧ g.x ≤ 9223372036854775807 ∧ g.n ≤ 9223372036854775807
set_option maxRecDepth 100000 in
/-- a deed's five cells -/
theorem open_deed {cs : List Value} {x : DataW H × List MemPlace} (h : DataW.trod enc Tryz.prog W 0 sp held fuel 58 cs = some x) :
    ∃ g : Dd, cs = [.int .i64 g.k, .string g.p, .int .i64 g.x, .int .i64 g.n, .slice g.a g.b.length g.c] ∧ deedOk W g := by
  obtain ⟨ys, n, _, _, hlen, hyl, hf⟩ := DataW.trod_struct Tryz.underlying58 h
  rw [cells_deed] at hlen
  match cs, hlen with
  | [c0, c1, c2, c3, c4], _ =>
    have g0 : DataW.trod enc Tryz.prog W 0 sp held n 56 [c0] = ys[0]? := hf 0 _ rfl
    have g1 : DataW.trod enc Tryz.prog W 0 sp held n 9 [c1] = ys[1]? := hf 1 _ rfl
    have g2 : DataW.trod enc Tryz.prog W 0 sp held n 3 [c2] = ys[2]? := hf 2 _ rfl
    have g3 : DataW.trod enc Tryz.prog W 0 sp held n 3 [c3] = ys[3]? := hf 3 _ rfl
    have g4 : DataW.trod enc Tryz.prog W 0 sp held n 30 [c4] = ys[4]? := hf 4 _ rfl
    have hy : ys.length = 5 := hyl
    rw [List.getElem?_eq_getElem (by omega)] at g0 g1 g2 g3 g4
    obtain ⟨k, e0, _, _⟩ := DataW.trod_int Tryz.underlying56 g0
    obtain ⟨s, e1, _, w1⟩ := DataW.trod_string Tryz.underlying9 g1
    obtain ⟨a, e2, _, w2⟩ := DataW.trod_int Tryz.underlying3 g2
    obtain ⟨b, e3, _, w3⟩ := DataW.trod_int Tryz.underlying3 g3
    obtain ⟨A, l, c, e4, h1, h2, h3⟩ := Trk.open_bytes0 g4
    simp at e0 e1 e2 e3
    subst e0 e1 e2 e3 e4
    have b2 := bounds_i64 w2
    have b3 := bounds_i64 w3
    exact ⟨⟨k, s, a, b, A, c, l⟩, rfl, by unfold maxLen at w1; show s.size ≤ _; omega, h1, h2, h3, by show a ≤ _; omega, by show b ≤ _; omega⟩

set_option maxRecDepth 100000 in
theorem open_deeds {v : Value} {x : DataW H × List MemPlace} (h : DataW.trod enc Tryz.prog W 0 sp held fuel 53 [v] = some x) : ∃ A l c, v = .slice A l.length c ∧ Dds W A l ∧ (l = [] ∨ ∃ es sp', x.1 = .slice es sp' ∧ es.length = l.length) := by
  rcases Go.Deep.open_slice Tryz.underlying53 h with ⟨hcs, _⟩ | ⟨a, len, cap, m, n, D, Pl, hcs, _, hl, hm, hmm, hx, hi⟩
  · simp at hcs
    exact ⟨none, [], 0, hcs, ⟨by simp, fun f hf => by simp at hf, fun j hj => absurd hj (by simp)⟩, .inl rfl⟩
  · simp at hcs
    have hlen : len ≤ 9223372036854775807 := by unfold maxLen at hm; omega
    have hjm : ∀ i, i < len → i < m := fun i hi => by rw [hmm]; split <;> omega
    have one : ∀ i, ∃ g : Dd, i < len → ((W.cell? (a.add (i * 5)) = some (.int .i64 g.k) ∧ W.cell? ((a.add (i * 5)).add 1) = some (.string g.p) ∧ W.cell? ((a.add (i * 5)).add 2) = some (.int .i64 g.x) ∧ W.cell? ((a.add (i * 5)).add 3) = some (.int .i64 g.n) ∧ W.cell? ((a.add (i * 5)).add 4) = some (.slice g.a g.b.length g.c)) ∧ deedOk W g) := fun i => by
      by_cases hil : i < len
      · obtain ⟨cs', hc, ht⟩ := hi i (hjm i hil)
        rw [cells_deed] at hc
        obtain ⟨f, rfl, h1⟩ := open_deed ht
        obtain ⟨_, _, hat⟩ := World.cells?_some hc
        have g0 := hat 0 (by omega)
        have g1 := hat 1 (by omega)
        have g2 := hat 2 (by omega)
        have g3 := hat 3 (by omega)
        have g4 := hat 4 (by omega)
        simp only [List.getElem?_cons_zero, List.getElem?_cons_succ] at g0 g1 g2 g3 g4
        refine ⟨f, fun _ => ⟨⟨?_, g1, g2, g3, g4⟩, h1⟩⟩
        simpa [Addr.add] using g0
      · exact ⟨⟨0, ⟨#[]⟩, 0, 0, none, 0, []⟩, fun h => absurd h hil⟩
    obtain ⟨f, hf⟩ := Classical.skolem.1 one
    have hget : ∀ j (hj : j < ((List.range len).map f).length), ((List.range len).map f)[j] = f j := fun j hj => by rw [List.getElem_map, List.getElem_range]
    refine ⟨some a, (List.range len).map f, cap, by rw [List.length_map, List.length_range]; exact hcs, ⟨by rw [List.length_map, List.length_range]; exact hlen, fun g hg => ?_, fun j hj => ?_⟩, .inr ⟨_, _, by rw [hx], by rw [List.length_map, List.length_map]⟩⟩
    · obtain ⟨i, hi, rfl⟩ := List.mem_map.1 hg
      exact (hf i (List.mem_range.1 hi)).2
    · rw [hget j hj]
      rw [List.length_map, List.length_range] at hj
      have hc0 := (hf 0 (by omega)).1.1
      obtain ⟨b, o, spot⟩ := a
      have hspot : spot = none := by simpa [Addr.add] using World.cell?_spot hc0
      subst hspot
      obtain ⟨g0, g1, g2, g3, g4⟩ := (hf j hj).1
      simp only [Go.WideShapes.add_plain] at g0 g1 g2 g3 g4
      exact ⟨b, o, rfl, Crc.cell_lt g0, g0, g1, g2, g3, g4⟩
end
end Mod
end Go.Proofs.YtkhkcfbacnkcnaaGreatDoor
/- A start that meets the rows' condition: the library's tables unicode/utf8.first and acceptRanges as they are laid; arguments that are names. -/
namespace Go.Proofs.YtkhkcfbacnkcnaaGreatDoor
open Go.RowKit Go.MapKept Go.ChangeShapes Go.WideShapes Go.ChangeAt Go.Deep

abbrev lst : List (String × DataW Unit) := [("unicode/utf8.acceptRanges", Rows.laid_unicode_utf8_acceptRanges), ("unicode/utf8.first", Rows.laid_unicode_utf8_first)]

/-- a start with both tables meets the condition -/
theorem door_met (os : Os) (args : Array Value) : laidMetH Tryz.prog lst ((World.laidAll Tryz.prog os lst).forCall (fun _ _ => 0) ⟨#[], args, []⟩).memory := by
  rw [MakeChecks.laidMetH_plain _ _ _ (by kernel_rfl)]
  exact laidMet_laidAll _ (by kernel_rfl) (by kernel_rfl)

namespace Pat
section
variable {H : Type} {enc : TypeId × Value → H} {W : World} {fuel : Nat} {sp : Nat → Bool} {held : Bool}
theorem open_strs {v : Value} {x : DataW H × List MemPlace} (h : DataW.trod enc Tryz.prog W 0 sp held fuel 33 [v] = some x) : ∃ A l c, v = .slice A l.length c ∧ Txs W A l ∧ l.length ≤ c ∧ (A = none → c = 0) := by
  obtain ⟨A, l, c, e, hc, hl, ha⟩ := Crc.open_ones (α := ByteArray) ByteArray.empty (fun s u => u = .string s ∧ s.size ≤ 9223372036854775807) Tryz.underlying33 (by kernel_rfl) (fun n u y hu => by
    obtain ⟨s, e, _, hw⟩ := DataW.trod_string Tryz.underlying9 hu
    simp at e
    exact ⟨s, e, by unfold maxLen at hw; omega⟩) h
  refine ⟨A, l, c, e, ⟨fun s hs => ?_, hl, fun j hj => ?_⟩, hc, ?_⟩
  · obtain ⟨j, hj, rfl⟩ := List.getElem_of_mem hs
    obtain ⟨_, _, _, _, _, _, _, h2⟩ := ha j hj
    exact h2
  · obtain ⟨b, o, u, e, h1, h2, rfl, _⟩ := ha j hj
    exact ⟨b, o, e, h1, h2⟩
  · rintro rfl
    subst e
    rcases Go.Deep.open_slice1 Tryz.underlying33 (by kernel_rfl) h with ⟨hcs, _⟩ | ⟨a, len, cap, m, n, V, D, Pl, hcs, _⟩
    · simp at hcs
      omega
    · simp at hcs
end
end Pat
end Go.Proofs.YtkhkcfbacnkcnaaGreatDoor
