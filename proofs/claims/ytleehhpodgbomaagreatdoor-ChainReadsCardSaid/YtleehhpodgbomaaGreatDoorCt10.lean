/- Texts laid together: ChnRange, ChnMath, ChnMay, ChnWords, ChnWrite, ChnMem. -/
import Derived.RangeFuncWrites
import Derived.RangeFuncNested
import Derived.RangeFuncBound
import Derived.RangeFuncCalls
import Derived.RangeFuncLeaves
import Derived.RangeFuncBox
import Derived.Shelf.Abstract
import Derived.Shelf.RegionOpen
import Derived.WalkKit
import Derived.OwnWalkIn
import Derived.TacticsInMore
import Derived.LoopNIn
import Derived.LoopIn
import Derived.Test.YtleehhpodgbomaaGreatDoorCt4
import Derived.Test.YtleehhpodgbomaaGreatDoorCt1
import Derived.Lib.Hide
import Derived.Test.YtleehhpodgbomaaGreatDoorCt6
import Derived.Test.YtleehhpodgbomaaGreatDoorCt7
import Derived.Carry
import Derived.Test.YtleehhpodgbomaaGreatDoorCt8
import Derived.Test.YtleehhpodgbomaaGreatDoorCt9
import Derived.Test.YtleehhpodgbomaaGreatDoorCt2
import Derived.Test.YtleehhpodgbomaaGreatDoorCt3
import Derived.Test.YtleehhpodgbomaaGreatDoorCt5
/- A range over a function whose rounds call what writes elsewhere (a device): what holds between two rounds need only outlast a change of the loop's own record. And the library's slices.Backward of ints. -/
namespace Go.Proofs.YtleehhpodgbomaaGreatDoor
open Go.RowKit Go.Shelf Go.MapKept
attribute [local go_sem] Oper.semAt_some
namespace Chn

section
variable {F : Fence} {n : Nat} {P : Program}
/-- how a round is left: the loop's own two blocks are as they were; it goes on, or it returns -/
def Left (B : Nat) (I : Nat → World → Prop) (Ix : World → Prop) (k : Nat) (W : World) : Exit → Act → World → Prop
  | .normal, _, W' => (W'.heap[B]? = W.heap[B]? ∧ W'.heap[B + 1]? = W.heap[B + 1]?) ∧ I (k + 1) W'
  | .ret, _, W' => (W'.heap[B]? = W.heap[B]? ∧ W'.heap[B + 1]? = W.heap[B + 1]?) ∧ Ix W'
  | .exit _, _, _ => False
  | .goto _, _, _ => False
  | .panic _, _, _ => False
  | .outgrown, _, _ => False

theorem off_put (W : World) (l : Nat) (o : Obj) : Pm.Off (fun k => k = l) W (W.putObj l o) :=
  (Pm.Off.refl _ W).grown (grownBy_putObj' W l o) (fun k e _ => by cases e; rfl)

theorem range_back {g : Operand} {ps : Array Tmp} {assign body : Code} {Q : Exit → Act → World → Prop} {a : Act} {w : World}
    (hro : F.round = none) (h1 : 1 ≤ n) {gf : Nat} {lb : Array Value} (hg : a.eval g = .func (.func gf) #[] lb) (hFg : F.fn gf) (eg : ∀ args w, (callFunc gf args).run P w = .ok (.enter gf args) w)
    {encs : Nat → Array Value} {N : Nat} (hps : ∀ k, (encs k).size = ps.size)
    (I : Nat → World → Prop) (Ix : World → Prop)
    (hI : ∀ k W W', I k W → Pm.Off (fun j => j = w.heap.size + 1) W W' → I k W') (hIx : ∀ W W', Ix W → Pm.Off (fun j => j = w.heap.size + 1) W W' → Ix W')
    (h0 : ∀ r, I 0 ((w.alloc (.deferred (some []))).alloc (.loop r)))
    (hseq : ∀ (l : Nat) (J : Nat → World → Prop) (Jx : World → Prop) (W : World), (∀ k W, J k W → I k W) →
      (∀ k W1, J k W1 → k < N → YieldAt F (n - 1 - 1) P l (encs k) W1 fun e W' => (e = .returned (.bool true) ∧ J (k + 1) W') ∨ (e = .returned (.bool false) ∧ Jx W')) → J 0 W →
      CallsIn F (n - 1) P gf (#[.func (.yield l) #[] #[]] ++ lb) W fun e W' => (∃ v, e = .returned v) ∧ (J N W' ∨ Jx W'))
    (a₁ : Nat → Act)
    (hassign : ∀ (l k : Nat) (W : World) (K : Act → World → Prop), K (a₁ k) W →
      assign.wpIn (F.inRound l) (n - 1 - 1) P (Exit.then K (fun _ _ _ => False)) { tmps := (ps.zip (encs k)).foldl (fun t (p, v) => t.setIfInBounds p v) a.tmps, defers := [] } W)
    (hbody : ∀ (l k : Nat) (W : World), I k W → k < N → body.wpIn (F.inRound l) (n - 1 - 1) P (Left w.heap.size I Ix k W) (a₁ k) W)
    (hdone : ∀ W, I N W → W.heap[w.heap.size]? = some (.deferred (some [])) → Q .normal { a with defers := { target := .collected w.heap.size, args := #[] } :: a.defers } W)
    (hstop : ∀ W, Ix W → W.heap[w.heap.size]? = some (.deferred (some [])) → (Code.ret).wpIn F n P Q { a with defers := { target := .collected w.heap.size, args := #[] } :: a.defers } W) :
    (Code.rangeFunc g ps assign body).wpIn F n P Q a w := by
  refine wpIn_rangeFunc ?_
  intro fn hfn
  rw [hro]
  obtain ⟨rec, hrec⟩ : ∃ rec : LoopState → Option Code → Loop, rec = fun st pe => { state := st, pending := pe, fn, tmps := a.tmps, params := ps, assign, body, defers := w.heap.size } := ⟨_, rfl⟩
  have hrun := run_enterLoop_outer (P := P) (w := w) fn a.tmps ps assign body
  have hI1 := h0 (rec .ready none)
  have hL := World.alloc_heap_new (w.alloc (.deferred (some []))) (.loop (rec .ready none))
  rw [World.size_alloc] at hL
  have hD : ((w.alloc (.deferred (some []))).alloc (.loop (rec .ready none))).heap[w.heap.size]? = some (.deferred (some [])) := (Below.heap_alloc _ _ _ (by simp)).trans (World.alloc_heap_new w _)
  have hrr : (Instr.enterLoop fn a.tmps ps assign body none).run P w = .ok (w.heap.size + 1, [{ target := .collected w.heap.size, args := #[] }]) ((w.alloc (.deferred (some []))).alloc (.loop (rec .ready none))) := by rw [hrec]; exact hrun
  clear hrun h0
  generalize (w.alloc (.deferred (some []))).alloc (.loop (rec .ready none)) = W1 at *
  refine ⟨w.heap.size + 1, _, W1, { target := .fn (.func gf) lb, args := #[.func (.yield (w.heap.size + 1)) #[] #[]] }, W1, gf, #[.func (.yield (w.heap.size + 1)) #[] #[]] ++ lb, W1, hrr, ?_, ?_, ?_, fun _ => h1, ?_⟩
  · simp only [resolve, hg]
    simp [go_sem]
  · intro f' hf'
    simp [Target.leads] at hf'
    subst hf'
    exact hFg
  · simp [invoke, go_sem, eg]
  · refine (hseq (w.heap.size + 1)
      (fun k W => I k W ∧ W.heap[w.heap.size + 1]? = some (.loop (rec .ready none)) ∧ W.heap[w.heap.size]? = some (.deferred (some [])))
      (fun W => Ix W ∧ W.heap[w.heap.size + 1]? = some (.loop (rec .done (some .ret))) ∧ W.heap[w.heap.size]? = some (.deferred (some [])))
      W1 (fun _ _ h => h.1) ?_ ⟨hI1, hL, hD⟩).mono ?_
    · rintro k W ⟨hi, hl, hk⟩ hN
      have hlt : w.heap.size + 1 < W.heap.size := (Array.getElem?_eq_some_iff.1 hl).1
      have hy := run_yield (P := P) (args := encs k) hl (by rw [hrec]; exact hps k)
      rw [hrec] at hy
      refine ⟨fn, _, assign, body, hy, roundIn_of_wpIn hfn (hassign _ k W _ ⟨_, run_beginRound hl (by rw [hrec]), ?_⟩)⟩
      have hl2 : (W.putObj (w.heap.size + 1) (.loop { rec .ready none with state := .busy })).heap[w.heap.size + 1]? = some (.loop { rec .ready none with state := .busy }) := World.putObj_heap_same hlt
      have hk2 : (W.putObj (w.heap.size + 1) (.loop { rec .ready none with state := .busy })).heap[w.heap.size]? = some (.deferred (some [])) := (World.putObj_heap_other (by omega)).trans hk
      have hi2 := hI k _ _ hi (off_put W (w.heap.size + 1) (.loop { rec .ready none with state := .busy }))
      generalize W.putObj (w.heap.size + 1) (.loop { rec .ready none with state := .busy }) = W2 at *
      refine wpIn_mono (hbody (w.heap.size + 1) k W2 hi2 hN) ?_
      rintro e a3 W3 hp
      cases e with
      | normal =>
        obtain ⟨⟨e1, e2⟩, hi3⟩ := hp
        have hl3 := e2.trans hl2
        have hr := run_endRound (P := P) none hl3
        rw [hrec] at hr
        refine ⟨_, _, hr, .inl ⟨rfl, hI _ _ _ hi3 (off_put _ _ _), ?_, (World.putObj_heap_other (by omega)).trans (e1.trans hk2)⟩⟩
        rw [World.putObj_heap_same (Array.getElem?_eq_some_iff.1 hl3).1, hrec]
        rfl
      | ret =>
        obtain ⟨⟨e1, e2⟩, hi3⟩ := hp
        have hl3 := e2.trans hl2
        have hr := run_endRound (P := P) (some .ret) hl3
        rw [hrec] at hr
        refine ⟨_, _, hr, .inr ⟨rfl, hIx _ _ hi3 (off_put _ _ _), ?_, (World.putObj_heap_other (by omega)).trans (e1.trans hk2)⟩⟩
        rw [World.putObj_heap_same (Array.getElem?_eq_some_iff.1 hl3).1, hrec]
        rfl
      | exit id => exact hp.elim
      | goto t => exact hp.elim
      | panic ch => exact hp.elim
      | outgrown => exact hp.elim
    · rintro e W2 ⟨⟨v, rfl⟩, (⟨hi, hl, hk⟩ | ⟨hi, hl, hk⟩)⟩
      · have hr := run_endLoop (P := P) hl (by rw [hrec]; simp)
        rw [hrec] at hr
        exact ⟨none, _, hr, hdone _ (hI _ _ _ hi (off_put _ _ _)) ((World.putObj_heap_other (by omega)).trans hk)⟩
      · have hr := run_endLoop (P := P) hl (by rw [hrec]; simp)
        rw [hrec] at hr
        exact ⟨some .ret, _, hr, hstop _ (hIx _ _ hi (off_put _ _ _)) ((World.putObj_heap_other (by omega)).trans hk)⟩
end

section
variable {F : Fence} {n : Nat} {P : Program} {ops : Array Oper} {Q : Exit → Act → World → Prop}
theorem op_mono {i : Nat} {K K' : Act → World → Prop} (h : ∀ a w, K a w → K' a w) {a : Act} {w : World} (hh : wpOpIn F n P ops Q i K a w) : wpOpIn F n P ops Q i K' a w := by
  unfold wpOpIn at *
  split
  · rename_i e; rw [e] at hh; exact h _ _ hh
  · rename_i o e
    rw [e] at hh
    simp only at hh
    split
    · rename_i e2; rw [if_pos e2] at hh; exact Oper.wpIn_mono h hh
    · rename_i e2; rw [if_neg e2] at hh; exact ⟨hh.1, h _ _ hh.2⟩
/-- how many aren't listed yet -/
def rest (l : Array Bool) : Nat := l.toList.countP (fun b => !b)
theorem count_set : ∀ (l : List Bool) (i : Nat), l[i]? = some false → (l.set i true).countP (fun b => !b) + 1 = l.countP (fun b => !b)
  | [], i, h => by simp at h
  | b :: l, 0, h => by
    obtain rfl : b = false := by simpa using h
    simp
  | b :: l, i + 1, h => by
    have := count_set l i (by simpa using h)
    rw [List.set_cons_succ, List.countP_cons, List.countP_cons]
    omega
/-- a region that draws its order, by what holds at whatever has been carried out -/
theorem any_inv (St : Array Bool → Act → World → Prop)
    (hstep : ∀ l a w i, l.size = ops.size → St l a w → i ∈ Region.ready .any ops l → wpOpIn F n P ops Q i (St (l.setIfInBounds i true)) a w)
    (hend : ∀ l a w, l.size = ops.size → St l a w → Region.ready .any ops l = [] → Q .normal a w) :
    ∀ (fuel : Nat) (l : Array Bool) (a : Act) (w : World), l.size = ops.size → rest l ≤ fuel → St l a w → wpAnyIn F n P .any ops Q fuel l a w
  | 0, l, a, w, hs, hr, h => by
    have h0 : Region.ready .any ops l = [] := by
      unfold Region.ready
      rw [List.filter_eq_nil_iff]
      intro i hi
      have hi : i < l.size := by rw [hs]; simpa using hi
      have hm : l[i] = true := by
        cases e : l[i] with
        | true => rfl
        | false =>
          have : 0 < l.toList.countP (fun b => !b) := List.countP_pos_iff.2 ⟨false, by rw [← e]; simp, rfl⟩
          unfold rest at hr
          omega
      simp [Array.getD, hi, hm]
    exact ⟨h0, hend l a w hs h h0⟩
  | fuel + 1, l, a, w, hs, hr, h => by
    refine ⟨hend l a w hs h, fun i hi => op_mono (fun a' w' h' => any_inv St hstep hend fuel _ a' w' (by simpa using hs) ?_ h') (hstep l a w i hs h hi)⟩
    have hi2 := (List.mem_filter.1 hi)
    have hlt : i < l.size := by rw [hs]; simpa using hi2.1
    have hf : l[i] = false := by
      have := hi2.2
      simp only [Bool.and_eq_true, Bool.not_eq_true', Array.getD, hlt, dite_true] at this
      exact this.1
    have := count_set l.toList i (by rw [List.getElem?_eq_getElem (by simpa using hlt)]; simpa using hf)
    unfold rest at hr ⊢
    rw [Array.toList_setIfInBounds]
    omega
end

/-! slices.Backward -/
/-- what a round is handed: the index, the element -/
def bw (l : List Int) (k : Nat) : Array Value := #[.int .i64 ((l.length : Int) - 1 - (k : Int)), .int .i64 (l[l.length - 1 - k]?.getD 0)]

theorem back1_in (F : Fence) (f : Nat) (hf : F.fn 60) (hro : F.round = none) (h1 : 1 ≤ f) (lp Bn : Nat) (A : Option Addr) (c : Nat) (l : List Int) (hl : l.length ≤ 1000000) (J : Nat → World → Prop) (Jx : World → Prop)
    (hm : ∀ k W, J k W → W.cell? ⟨Bn, 0, none⟩ = some (.slice A l.length c) ∧ Pack.Nts W A l)
    (hY : ∀ k W, J k W → k < l.length → YieldAt F (f - 1) Tryz.prog lp (bw l k) W fun e W' => (e = .returned (.bool true) ∧ J (k + 1) W') ∨ (e = .returned (.bool false) ∧ Jx W'))
    (W : World) (h0 : J 0 W) :
    CallsIn F f Tryz.prog 60 #[.func (.yield lp) #[] #[], .pointer (some ⟨Bn, 0, none⟩)] W fun e W' => (∃ v, e = .returned v) ∧ (J l.length W' ∨ Jx W') := by
  refine callsIn_of_wp Tryz.func60 rfl hf ?_ hro
  simp only [Tryz.ntmps60, List.size_toArray, List.length_cons, List.length_nil, Nat.reduceAdd, Nat.reduceSub, Array.replicate_succ, Array.replicate_zero, List.push_toArray, List.append_toArray, List.nil_append, List.cons_append]
  obtain ⟨hc0, hn0⟩ := hm 0 W h0
  have H0 := Lib.hid h0
  clear h0 hn0
  gi_wp2_with fail
  gi_loopw [3] (fun i wr => ∃ k : Nat, k ≤ l.length ∧ i = .int .i64 ((l.length : Int) - 1 - (k : Int)) ∧ J k wr) (fun i _ => ((intOf i) + 1).toNat)
  case atStart => exact ⟨0, Nat.zero_le _, by simp, H0.out⟩
  case round =>
    obtain ⟨k, hk, rfl, hJ⟩ := hrel
    obtain ⟨hc, hN⟩ := hm k wr hJ
    by_cases hlt : k < l.length
    · obtain ⟨j, hj⟩ : ∃ j, l.length = k + 1 + j := ⟨l.length - k - 1, by omega⟩
      have hjl : j < l.length := by omega
      obtain ⟨b, o, hA, hb, hcj⟩ := hN.at' j hjl
      subst hA
      have hRR := hY k wr hJ hlt
      unfold bw at hRR
      rw [show l.length - 1 - k = j by omega, List.getElem?_eq_getElem hjl, Option.getD_some, show (l.length : Int) - 1 - (k : Int) = (j : Int) by omega] at hRR
      obtain ⟨fn, tmps, assign, body, hy, hR⟩ := hRR
      have HR := Lib.hid hR
      rw [show (l.length : Int) - 1 - (k : Int) = (j : Int) by omega]
      have HJL := Lib.hid hj
      clear hR hJ hN H0 hj
      gi_wp2_with fail
      refine HR.out.mono ?_
      rintro e W3 (⟨rfl, hJ3⟩ | ⟨rfl, hJx⟩)
      · have HJ3 := Lib.hid hJ3
        clear hJ3
        gi_wp2
        go_roundw
        case rel => exact ⟨k + 1, by omega, by have := HJL.out; congr 1; omega, HJ3.out⟩
        case measure => simp [intOf]
      · have HJX := Lib.hid hJx
        clear hJx
        gi_wp2
        refine bodyPost_ret (results_none rfl _ _ _) rfl ?_
        exact ⟨⟨_, rfl⟩, .inr HJX.out⟩
    · obtain rfl : k = l.length := by omega
      have HJ := Lib.hid hJ
      rw [show (l.length : Int) - 1 - (l.length : Int) = -1 by omega]
      clear hJ hN H0
      gi_wp2
      go_end0
      exact ⟨⟨_, rfl⟩, .inl HJ.out⟩
end Chn
end Go.Proofs.YtleehhpodgbomaaGreatDoor
/- Chains, of no program: slots from a number on, each with the next one's number; a chain that comes back to a slot of its own never ends. -/
namespace Go.Proofs.YtleehhpodgbomaaGreatDoor
namespace Chn

/-- a part: its slot's number, where it starts, how many blocks, the next one's number as it is written -/
structure Pt where
  s : Nat
  x : Nat
  c : Nat
  q : Nat

/-- the part of a number, of so many blocks: f tells a slot's word -/
def pat (f : Nat → Option (Nat × Nat × Nat)) (n : Nat) (i : Int) : Option Pt :=
  if 0 ≤ i ∧ i < (n : Int) then
    match f i.toNat with
    | none => none
    | some t => if t.1 + t.2.1 ≤ n then some ⟨i.toNat, t.1, t.2.1, t.2.2⟩ else none
  else none
theorem pat_out {f : Nat → Option (Nat × Nat × Nat)} {n : Nat} {i : Int} (h : i < 0 ∨ (n : Int) ≤ i) : pat f n i = none := if_neg (by omega)
theorem pat_none {f : Nat → Option (Nat × Nat × Nat)} {n i : Nat} (h : f i = none) : pat f n (i : Int) = none := by
  unfold pat
  split
  · rw [Int.toNat_natCast, h]
  · rfl
theorem pat_far {f : Nat → Option (Nat × Nat × Nat)} {n i x c q : Nat} (h : f i = some (x, c, q)) (hn : n < x + c) : pat f n (i : Int) = none := by
  unfold pat
  split
  · rw [Int.toNat_natCast, h]
    exact if_neg (by simp only; omega)
  · rfl
theorem pat_yes {f : Nat → Option (Nat × Nat × Nat)} {n i x c q : Nat} (h : f i = some (x, c, q)) (hi : i < n) (hn : x + c ≤ n) : pat f n (i : Int) = some ⟨i, x, c, q⟩ := by
  unfold pat
  rw [if_pos (by omega), Int.toNat_natCast, h]
  exact if_pos hn
theorem pat_some {f : Nat → Option (Nat × Nat × Nat)} {n : Nat} {i : Int} {p : Pt} (h : pat f n i = some p) : i = (p.s : Int) ∧ p.s < n ∧ f p.s = some (p.x, p.c, p.q) ∧ p.x + p.c ≤ n := by
  unfold pat at h
  split at h
  case isFalse => cases h
  case isTrue hi =>
    split at h
    · cases h
    · rename_i t ht
      split at h
      · injection h with h
        subst h
        exact ⟨by simp only; omega, by simp only; omega, ht, by assumption⟩
      · cases h

section
variable {P : Int → Option Pt}
/-- from h on these parts follow one another, and s is next -/
def Path (P : Int → Option Pt) : Int → List Pt → Int → Prop
  | h, [], s => h = s
  | h, p :: l, s => h ≠ -1 ∧ P h = some p ∧ Path P (Slo.nx p.q) l s
theorem path_append : ∀ {l1 l2 : List Pt} {h s : Int}, Path P h (l1 ++ l2) s ↔ ∃ t, Path P h l1 t ∧ Path P t l2 s
  | [], l2, h, s => ⟨fun k => ⟨h, rfl, k⟩, fun ⟨t, e, k⟩ => by cases e; exact k⟩
  | p :: l1, l2, h, s => by
    constructor
    · rintro ⟨h1, h2, h3⟩
      obtain ⟨t, k1, k2⟩ := path_append.1 h3
      exact ⟨t, ⟨h1, h2, k1⟩, k2⟩
    · rintro ⟨t, ⟨h1, h2, h3⟩, k⟩
      exact ⟨h1, h2, path_append.2 ⟨t, h3, k⟩⟩
theorem path_snoc {l : List Pt} {h s : Int} {p : Pt} (k : Path P h l s) (hs : s ≠ -1) (hp : P s = some p) : Path P h (l ++ [p]) (Slo.nx p.q) :=
  path_append.2 ⟨s, k, hs, hp, rfl⟩
/-- what goes on from a path is one's own -/
theorem path_go : ∀ {l r : List Pt} {h s : Int}, Path P h l s → Path P h r (-1) → ∃ r', r = l ++ r' ∧ Path P s r' (-1)
  | [], r, h, s, k, m => ⟨r, rfl, by cases k; exact m⟩
  | p :: l, [], h, s, k, m => absurd m k.1
  | p :: l, p' :: r, h, s, k, m => by
    obtain ⟨k1, k2, k3⟩ := k
    obtain ⟨m1, m2, m3⟩ := m
    rw [k2] at m2
    injection m2 with m2
    subst m2
    obtain ⟨r', e, h'⟩ := path_go k3 m3
    exact ⟨r', by rw [e]; rfl, h'⟩
theorem path_one {r r' : List Pt} {h : Int} (k : Path P h r (-1)) (m : Path P h r' (-1)) : r = r' := by
  obtain ⟨r2, e, m2⟩ := path_go k m
  cases r2 with
  | nil => rw [e, List.append_nil]
  | cons p r2 => exact absurd rfl m2.1
/-- what comes back to where it began doesn't end -/
theorem path_round {l r : List Pt} {h : Int} (k : Path P h l h) (hl : l ≠ []) : ¬ Path P h r (-1) := by
  intro m
  obtain ⟨r', e, m'⟩ := path_go k m
  have := congrArg List.length (path_one m m')
  have h2 := congrArg List.length e
  rw [List.length_append] at h2
  have h3 := List.length_pos_iff.2 hl
  omega

/-- the chain from s on, of k slots at most -/
def rd (P : Int → Option Pt) : Nat → Int → Option (List Pt)
  | k, s => if s = -1 then some [] else
    match k with
    | 0 => none
    | k + 1 => match P s with
      | none => none
      | some p => (rd P k (Slo.nx p.q)).map (p :: ·)
theorem rd_iff : ∀ {k : Nat} {s : Int} {r : List Pt}, rd P k s = some r ↔ Path P s r (-1) ∧ r.length ≤ k
  | 0, s, r => by
    unfold rd
    by_cases hs : s = -1
    · rw [if_pos hs]
      constructor
      · intro h; injection h with h; subst h; exact ⟨hs, Nat.le_refl _⟩
      · rintro ⟨h, _⟩
        cases r with
        | nil => rfl
        | cons p r => exact absurd hs h.1
    · rw [if_neg hs]
      constructor
      · intro h; cases h
      · rintro ⟨h, h2⟩
        obtain rfl : r = [] := List.length_eq_zero_iff.1 (by omega)
        exact absurd h hs
  | k + 1, s, r => by
    unfold rd
    by_cases hs : s = -1
    · rw [if_pos hs]
      constructor
      · intro h; injection h with h; subst h; exact ⟨hs, Nat.zero_le _⟩
      · rintro ⟨h, _⟩
        cases r with
        | nil => rfl
        | cons p r => exact absurd hs h.1
    · rw [if_neg hs]
      simp only
      cases hp : P s with
      | none =>
        constructor
        · intro h; cases h
        · rintro ⟨h, _⟩
          cases r with
          | nil => exact absurd h hs
          | cons p r => have := h.2.1; rw [hp] at this; cases this
      | some p =>
        simp only
        constructor
        · intro h
          obtain ⟨r', hr, rfl⟩ := Option.map_eq_some_iff.1 h
          obtain ⟨h1, h2⟩ := rd_iff.1 hr
          exact ⟨⟨hs, hp, h1⟩, by simp; omega⟩
        · rintro ⟨h, h2⟩
          cases r with
          | nil => exact absurd h hs
          | cons p' r =>
            obtain ⟨h3, h4, h5⟩ := h
            rw [hp] at h4
            injection h4 with h4
            subst h4
            exact Option.map_eq_some_iff.2 ⟨r, rd_iff.2 ⟨h5, by simpa using h2⟩, rfl⟩
theorem rd_none {k : Nat} {s : Int} (h : ∀ r, Path P s r (-1) → r.length ≤ k → False) : rd P k s = none := by
  cases e : rd P k s with
  | none => rfl
  | some r => exact (h r (rd_iff.1 e).1 (rd_iff.1 e).2).elim
/-- so many are met, and it is to go on -/
theorem rd_full {n : Nat} {l : List Pt} {h s : Int} (k : Path P h l s) (hs : s ≠ -1) (hl : l.length = n) : rd P n h = none :=
  rd_none fun r hr hn => by
    obtain ⟨r', e, m⟩ := path_go k hr
    cases r' with
    | nil => exact hs m
    | cons p r' => rw [e, List.length_append, List.length_cons] at hn; omega
/-- there is none of that number -/
theorem rd_stop {n : Nat} {l : List Pt} {h s : Int} (k : Path P h l s) (hs : s ≠ -1) (hp : P s = none) : rd P n h = none :=
  rd_none fun r hr _ => by
    obtain ⟨r', e, m⟩ := path_go k hr
    cases r' with
    | nil => exact hs m
    | cons p r' => have := m.2.1; rw [hp] at this; cases this
end

section
variable {f : Nat → Option (Nat × Nat × Nat)} {n : Nat}
theorem path_head {l : List Pt} {h s : Int} {p : Pt} (k : Path (pat f n) h (p :: l) s) : h = (p.s : Int) := (pat_some k.2.1).1
theorem path_mem : ∀ {l : List Pt} {h s : Int}, Path (pat f n) h l s → ∀ p ∈ l, p.s < n ∧ f p.s = some (p.x, p.c, p.q) ∧ p.x + p.c ≤ n
  | [], _, _, _, p, hp => by cases hp
  | p :: l, h, s, k, p', hp => by
    rcases List.mem_cons.1 hp with e | hp
    · subst e
      obtain ⟨_, h2⟩ := pat_some k.2.1
      exact h2
    · exact path_mem k.2.2 p' hp
/-- from one of its own on -/
theorem path_at {l : List Pt} {h s : Int} (k : Path (pat f n) h l s) {i : Nat} (hi : i < l.length) : Path (pat f n) h (l.take i) ((l[i].s : Nat) : Int) ∧ Path (pat f n) ((l[i].s : Nat) : Int) (l.drop i) s := by
  have e : l = l.take i ++ l.drop i := (List.take_append_drop i l).symm
  have k2 := k
  rw [e] at k2
  obtain ⟨t, k3, k4⟩ := path_append.1 k2
  rw [List.drop_eq_getElem_cons hi] at k4
  obtain rfl := path_head k4
  exact ⟨k3, by rw [List.drop_eq_getElem_cons hi]; exact k4⟩
/-- what comes back to one of its own doesn't end -/
theorem path_back {l : List Pt} {h s : Int} (k : Path (pat f n) h l s) {p : Pt} (hp : p ∈ l) (e : s = (p.s : Int)) {r : List Pt} : ¬ Path (pat f n) h r (-1) := by
  intro m
  obtain ⟨i, hi, rfl⟩ := List.mem_iff_getElem.1 hp
  obtain ⟨k1, k2⟩ := path_at k hi
  obtain ⟨r', _, m'⟩ := path_go k1 m
  rw [e] at k2
  exact path_round k2 (by intro h0; have := congrArg List.length h0; simp at this; omega) m'
theorem rd_back {l : List Pt} {h s : Int} (k : Path (pat f n) h l s) {p : Pt} (hp : p ∈ l) (e : s = (p.s : Int)) (j : Nat) : rd (pat f n) j h = none :=
  rd_none fun _ hr _ => path_back k hp e hr
/-- a chain has no slot twice -/
theorem path_nodup : ∀ {r : List Pt} {h : Int}, Path (pat f n) h r (-1) → (r.map Pt.s).Nodup
  | [], _, _ => List.nodup_nil
  | p :: l, h, k => by
    rw [List.map_cons, List.nodup_cons]
    refine ⟨fun hm => ?_, path_nodup k.2.2⟩
    obtain ⟨p', hp', e⟩ := List.mem_map.1 hm
    obtain ⟨i, hi, rfl⟩ := List.mem_iff_getElem.1 hp'
    obtain ⟨k1, _⟩ := path_at k.2.2 hi
    have k3 : Path (pat f n) h (p :: l.take i) h := ⟨k.1, k.2.1, by rw [path_head k, ← e]; exact k1⟩
    exact path_round k3 (by simp) k
theorem few_slots {l : List Pt} (h : ∀ p ∈ l, p.s < n) (hn : (l.map Pt.s).Nodup) : l.length ≤ n := by
  have := List.Nodup.length_le_of_subset (l₁ := l.map Pt.s) (l₂ := List.range n) hn (fun x hx => by
    obtain ⟨p, hp, rfl⟩ := List.mem_map.1 hx
    exact List.mem_range.2 (h p hp))
  simpa using this
theorem path_len {r : List Pt} {h : Int} (k : Path (pat f n) h r (-1)) : r.length ≤ n := few_slots (fun p hp => (path_mem k p hp).1) (path_nodup k)
theorem rd_yes {r : List Pt} {h : Int} (k : Path (pat f n) h r (-1)) : rd (pat f n) n h = some r := rd_iff.2 ⟨k, path_len k⟩
theorem path_last : ∀ {r : List Pt} {h : Int}, Path (pat f n) h r (-1) → ∀ {i : Nat} (hi : i < r.length), i + 1 = r.length → Slo.nx r[i].q = -1
  | [], _, _, i, hi, _ => by simp at hi
  | [p], _, k, i, hi, _ => by
    obtain rfl : i = 0 := by simp at hi; omega
    exact k.2.2
  | p :: p' :: l, _, k, i, hi, e => by
    cases i with
    | zero => simp at e
    | succ i => exact path_last k.2.2 (i := i) (by simpa using hi) (by simpa using e)
end
end Chn
end Go.Proofs.YtleehhpodgbomaaGreatDoor
/- What may be written: within, runOf, mayWrite. -/
namespace Go.Proofs.YtleehhpodgbomaaGreatDoor
open Go.RowKit Go.MapKept
namespace Chn

/-! A map of numbers that were met. -/
/-- the map's entry of a number, the i-th -/
def kent (i : Nat) (k : Int) : MapEntry := ⟨.int .i64 k, .bool true, i⟩
def kents (l : List Int) : List MapEntry := l.mapIdx kent
theorem kents_snoc (l : List Int) (k : Int) : kents (l ++ [k]) = kents l ++ [kent l.length k] := by
  unfold kents
  rw [List.mapIdx_append]
  simp
theorem mem_kents {l : List Int} {e : MapEntry} (h : e ∈ kents l) : ∃ i k, k ∈ l ∧ e = kent i k := by
  unfold kents at h
  obtain ⟨i, hi, rfl⟩ := List.mem_mapIdx.1 h
  exact ⟨i, l[i], List.getElem_mem hi, rfl⟩
theorem find_none (s : Int) : ∀ (es : List MapEntry) (i : Nat), (∀ e ∈ es, ∃ j t, t ≠ s ∧ e = kent j t) → Instr.findNow (.int .i64) (.int .i64 s) es i = some none
  | [], _, _ => rfl
  | e :: r, i, h => by
    obtain ⟨j, t, ht, rfl⟩ := h e (List.mem_cons_self ..)
    have hne : (s == t) = false := by simp; exact fun e => ht e.symm
    simp only [Instr.findNow, kent, Instr.sameNow, if_true, hne]
    exact find_none s r (i + 1) (fun e he => h e (List.mem_cons_of_mem _ he))
theorem find_some (s : Int) : ∀ (es : List MapEntry) (i : Nat), (∀ e ∈ es, ∃ j t, e = kent j t) → (∃ j, kent j s ∈ es) → ∃ k, Instr.findNow (.int .i64) (.int .i64 s) es i = some (some (k, .bool true))
  | [], _, _, h => by
    obtain ⟨j, h⟩ := h
    simp at h
  | e :: r, i, h, hx => by
    obtain ⟨j, t, rfl⟩ := h e (List.mem_cons_self ..)
    by_cases ht : s = t
    · subst ht
      exact ⟨i, by simp [Instr.findNow, kent, Instr.sameNow]⟩
    · have hne : (s == t) = false := by simp; exact ht
      obtain ⟨j', hj⟩ := hx
      obtain ⟨k, hk⟩ := find_some s r (i + 1) (fun e he => h e (List.mem_cons_of_mem _ he)) ⟨j', by
        rcases List.mem_cons.1 hj with h1 | h1
        · simp [kent] at h1
          exact absurd h1.1 ht
        · exact h1⟩
      refine ⟨k, ?_⟩
      simp only [Instr.findNow, kent, Instr.sameNow, if_true, hne]
      exact hk
/-- the world with another map in block b -/
def putMap (w : World) (b : Nat) (es : List MapEntry) (c : Nat) : World := { w with heap := w.heap.setIfInBounds b (.map es.toArray c) }
theorem putMap_at {w : World} {b c : Nat} {es : List MapEntry} (hb : b < w.heap.size) : (putMap w b es c).heap[b]? = some (.map es.toArray c) := by simp [putMap, hb]
theorem putMap_below {w0 w : World} {N b c : Nat} {es : List MapEntry} (h : Below N w0 w) (hb : N ≤ b) : Below N w0 (putMap w b es c) :=
  h.trans ⟨rfl, rfl, rfl, by simp [putMap], fun k hk => by
    have : b ≠ k := by omega
    simp [putMap, this]⟩
theorem isKey (k : Int) : IsKey (.int .i64) (.int .i64 k) := by simp [IsKey]
theorem zero_bool (w : World) : (zeroValue 4).run Tryz.prog w = .ok (.bool false) w := by kernel_rfl
section
variable {w : World} {b c : Nat} {l : List Int} {s : Int}
theorem run_look_no (hb : w.heap[b]? = some (.map (kents l).toArray c)) (hs : s ∉ l) : (Instr.lookup 122 (.map (some b)) (.int .i64 s) false).run Tryz.prog w = .ok (.bool false) w := by
  have hf := find_none s (kents l) 0 (fun e he => by
    obtain ⟨i, t, ht, rfl⟩ := mem_kents he
    exact ⟨i, t, fun h => hs (h ▸ ht), rfl⟩)
  simp [Instr.lookup, run_underlying Tryz.underlying122, MapKept.run_getObj_map hb, run_checkKey Tryz.underlying3 (isKey s), run_findKey Tryz.underlying3 hf, Result.andThen]
theorem run_look_yes (hb : w.heap[b]? = some (.map (kents l).toArray c)) (hs : s ∈ l) : (Instr.lookup 122 (.map (some b)) (.int .i64 s) false).run Tryz.prog w = .ok (.bool true) w := by
  obtain ⟨k, hf⟩ := find_some s (kents l) 0 (fun e he => by
    obtain ⟨i, t, _, rfl⟩ := mem_kents he
    exact ⟨i, t, rfl⟩) (by
    obtain ⟨i, hi, rfl⟩ := List.getElem_of_mem hs
    exact ⟨i, by
      unfold kents
      exact List.mem_mapIdx.2 ⟨i, hi, rfl⟩⟩)
  simp only [Instr.lookup, Sem.run_bind, run_underlying Tryz.underlying122, Result.andThen, MapKept.run_getObj_map hb, Sem.run_pure, run_checkKey Tryz.underlying3 (isKey s), run_findKey Tryz.underlying3 hf]
  rfl
theorem run_put (hb : w.heap[b]? = some (.map (kents l).toArray l.length)) (hs : s ∉ l) : (Instr.mapUpdate 122 (.map (some b)) (.int .i64 s) (.bool true)).run Tryz.prog w = .ok () (putMap w b (kents (l ++ [s])) (l.length + 1)) := by
  have hf := find_none s (kents l) 0 (fun e he => by
    obtain ⟨i, t, ht, rfl⟩ := mem_kents he
    exact ⟨i, t, fun h => hs (h ▸ ht), rfl⟩)
  simp only [Instr.mapUpdate, Sem.run_bind, run_underlying Tryz.underlying122, Result.andThen, MapKept.run_getObj_map hb, run_checkKey Tryz.underlying3 (isKey s), run_findKey Tryz.underlying3 hf, run_setObj_map _ hb]
  simp [putMap, kents_snoc, kent]
end

/-! Runs as they are handed in. -/
/-- pairs of ints as they lie -/
structure Prs (w : World) (A : Option Addr) (l : List (Int × Int)) : Prop where
  i64 : ∀ r ∈ l, (-9223372036854775808 ≤ r.1 ∧ r.1 ≤ 9223372036854775807) ∧ (-9223372036854775808 ≤ r.2 ∧ r.2 ≤ 9223372036854775807)
  len : l.length ≤ 9223372036854775807
  at' : ∀ j (h : j < l.length), ∃ b o, A = some ⟨b, o, none⟩ ∧ b < w.heap.size ∧ w.cell? ⟨b, o + j * 2, none⟩ = some (.int .i64 l[j].1) ∧ w.cell? ⟨b, o + j * 2 + 1, none⟩ = some (.int .i64 l[j].2)
theorem Prs.keep {w w' : World} {A : Option Addr} {l : List (Int × Int)} (h : Prs w A l) (hb : Below w.heap.size w w') : Prs w' A l :=
  ⟨h.i64, h.len, fun j hj => by
    obtain ⟨b, o, e, hlt, hc, hd⟩ := h.at' j hj
    exact ⟨b, o, e, Nat.lt_of_lt_of_le hlt hb.size, (hb.cell (p := ⟨b, o + j * 2, none⟩) hlt).trans hc, (hb.cell (p := ⟨b, o + j * 2 + 1, none⟩) hlt).trans hd⟩⟩

/-- a run has blocks, all of them of so many -/
def win (n : Nat) (x c : Int) : Bool := decide (1 ≤ c ∧ 0 ≤ x ∧ x ≤ (n : Int) - c)
theorem runOf_any (w : World) (x c q : Int) : Calls Tryz.prog 32 #[.agg #[.int .i64 x, .int .i64 c, .int .i64 q]] w fun r w' => r = .returned (.agg #[.int .i64 x, .int .i64 c]) ∧ Below w.heap.size w w' := by
  go_enter Tryz.func32, Tryz.ntmps32
  go_wp2
  refine bodyPost_ret (v := .agg #[.int .i64 x, .int .i64 c]) ?_ rfl ⟨rfl, ?_⟩
  · simp [results, Tryz.results32, go_sem]
  · first
    | exact ((Below.refl _ _).alloc (Nat.le_refl _) _).alloc (by simp) _
    | exact (Below.refl _ _).alloc (Nat.le_refl _) _
set_option maxHeartbeats 1000000 in
theorem within_any (w : World) (n : Nat) (x c : Int) (hn : n ≤ 1000000) (hc : c ≤ 9223372036854775807) : Calls Tryz.prog 31 #[.int .i64 (n : Int), .agg #[.int .i64 x, .int .i64 c]] w fun r w' => r = .returned (.bool (win n x c)) ∧ Below w.heap.size w w' := by
  have HW := Lib.hid (show win n x c = decide (1 ≤ c ∧ 0 ≤ x ∧ x ≤ (n : Int) - c) from rfl)
  generalize win n x c = r at *
  go_enter Tryz.func31, Tryz.ntmps31
  go_wp2_with fail
  all_goals have hr := HW.out
  all_goals first
    | rw [decide_eq_false (by omega)] at hr
    | rw [show decide (1 ≤ c ∧ 0 ≤ x ∧ x ≤ (n : Int) - c) = decide (x ≤ (n : Int) - c) from decide_eq_decide.2 (by omega)] at hr
  all_goals subst hr
  all_goals go_ret
  all_goals exact ⟨rfl, (Below.refl _ _).alloc (Nat.le_refl _) _⟩

/-- may a chain of these slots and runs be, of so many blocks? -/
def MayW (n : Nat) (ss : List Int) (rs : List (Int × Int)) : Prop := ss.length = rs.length ∧ (∀ s ∈ ss, 0 ≤ s ∧ s < (n : Int)) ∧ ss.Nodup ∧ ∀ r ∈ rs, win n r.1 r.2 = true
instance (n : Nat) (ss : List Int) (rs : List (Int × Int)) : Decidable (MayW n ss rs) := inferInstanceAs (Decidable (_ ∧ _ ∧ _ ∧ _))
def mayW (n : Nat) (ss : List Int) (rs : List (Int × Int)) : Bool := decide (MayW n ss rs)

/-- so far all may be -/
structure Good (n : Nat) (ss : List Int) (rs : List (Int × Int)) (m : Nat) : Prop where
  slot : ∀ s ∈ ss.take m, 0 ≤ s ∧ s < (n : Int)
  once : (ss.take m).Nodup
  run : ∀ r ∈ rs.take m, win n r.1 r.2 = true
theorem Good.zero (n : Nat) (ss : List Int) (rs : List (Int × Int)) : Good n ss rs 0 := ⟨fun s h => by simp at h, by simp, fun r h => by simp at h⟩
theorem Good.next {n : Nat} {ss : List Int} {rs : List (Int × Int)} {m : Nat} (h : Good n ss rs m) (hs : m < ss.length) (hr : m < rs.length) (h0 : 0 ≤ ss[m]) (h1 : ss[m] < (n : Int)) (h2 : ss[m] ∉ ss.take m) (h3 : win n rs[m].1 rs[m].2 = true) : Good n ss rs (m + 1) := by
  refine ⟨fun s k => ?_, ?_, fun r k => ?_⟩
  · rw [List.take_succ_eq_append_getElem hs, List.mem_append] at k
    rcases k with k | k
    · exact h.slot s k
    · obtain rfl : s = ss[m] := by simpa using k
      exact ⟨h0, h1⟩
  · rw [List.take_succ_eq_append_getElem hs, List.nodup_append]
    refine ⟨h.once, by simp, fun a ha b hb => ?_⟩
    obtain rfl : b = ss[m] := by simpa using hb
    exact fun e => h2 (e ▸ ha)
  · rw [List.take_succ_eq_append_getElem hr, List.mem_append] at k
    rcases k with k | k
    · exact h.run r k
    · obtain rfl : r = rs[m] := by simpa using k
      exact h3
theorem Good.all {n : Nat} {ss : List Int} {rs : List (Int × Int)} (h : Good n ss rs ss.length) (hl : ss.length = rs.length) : mayW n ss rs = true := by
  obtain ⟨h1, h2, h3⟩ := h
  rw [List.take_length] at h1 h2
  rw [hl, List.take_length] at h3
  exact decide_eq_true ⟨hl, h1, h2, h3⟩
theorem bad {n : Nat} {ss : List Int} {rs : List (Int × Int)} {m : Nat} (hs : m < ss.length) (hr : m < rs.length) (h : ss[m] < 0 ∨ (n : Int) ≤ ss[m] ∨ ss[m] ∈ ss.take m ∨ win n rs[m].1 rs[m].2 = false) : mayW n ss rs = false := by
  refine decide_eq_false (fun ⟨_, h1, h2, h3⟩ => ?_)
  rcases h with h | h | h | h
  · have := h1 _ (List.getElem_mem hs); omega
  · have := h1 _ (List.getElem_mem hs); omega
  · have e : ss.take (m + 1) <+: ss := List.take_prefix _ _
    have h4 := h2.sublist e.sublist
    rw [List.take_succ_eq_append_getElem hs, List.nodup_append] at h4
    exact h4.2.2 _ h _ (by simp) rfl
  · have := h3 _ (List.getElem_mem hr)
    rw [h] at this
    cases this

set_option maxHeartbeats 2000000 in
set_option maxRecDepth 100000 in
theorem mayWrite_any (w : World) (n : Nat) (hn : n ≤ 1000000) (A B : Option Addr) (c d : Nat) (ss : List Int) (rs : List (Int × Int)) (hs : Pack.Nts w A ss) (hr : Prs w B rs) :
    Calls Tryz.prog 36 #[.int .i64 (n : Int), .slice A ss.length c, .slice B rs.length d] w fun r w' => r = .returned (.bool (mayW n ss rs)) ∧ Below w.heap.size w w' := by
  obtain ⟨M, hM⟩ : ∃ M, M = mayW n ss rs := ⟨_, rfl⟩
  rw [← hM]
  have HM := Lib.hid hM
  have HS := Lib.hid hs
  have HR := Lib.hid hr
  have hsl := hs.len
  have hrl := hr.len
  have HWI := Lib.hid (fun w x c hc => within_any w n x c hn hc)
  have hmm := @run_makeMap Tryz.prog
  clear hM hs hr
  go_enter Tryz.func36, Tryz.ntmps36
  by_cases hlen : ss.length = rs.length
  · go_wp2
    clear hmm
    have HL := Lib.hid hlen
    clear hlen
    go_loopw [18] (fun i wr => ∃ m : Nat, m ≤ ss.length ∧ i = .int .i64 (m : Int) ∧ wr.heap[w.heap.size]? = some (.map (kents (ss.take m)).toArray m) ∧ Good n ss rs m ∧ Below w.heap.size w wr) (fun i _ => ss.length - (intOf i).toNat)
    case atStart => exact ⟨0, Nat.zero_le _, rfl, by simpa [kents] using (heap_alloc w (.map #[] 0)).1, Good.zero .., (Below.refl _ _).alloc (Nat.le_refl _) _⟩
    case round =>
      obtain ⟨m, hm, rfl, hmap, hgd, hb⟩ := hrel
      have HMP := Lib.hid hmap
      have HG := Lib.hid hgd
      have HB := Lib.hid hb
      have hwr : w.heap.size < wr.heap.size := (Array.getElem?_eq_some_iff.1 hmap).1
      clear hmap hgd
      by_cases hlt : m < ss.length
      · have hlr : m < rs.length := by have := HL.out; omega
        obtain ⟨b, o, rfl, hbb, hc0⟩ := HS.out.at' m hlt
        obtain ⟨b2, o2, rfl, hbb2, hd0, hd1⟩ := HR.out.at' m hlr
        have hc0 := (hb.cell (p := ⟨b, o + m, none⟩) hbb).trans hc0
        have hd0 := (hb.cell (p := ⟨b2, o2 + m * 2, none⟩) hbb2).trans hd0
        have hd1 := (hb.cell (p := ⟨b2, o2 + m * 2 + 1, none⟩) hbb2).trans hd1
        have hbb := Nat.lt_of_lt_of_le hbb hb.size
        have hbb2 := Nat.lt_of_lt_of_le hbb2 hb.size
        have HI := Lib.hid (HR.out.i64 rs[m] (List.getElem_mem hlr))
        have HBAD := Lib.hid (fun h => show mayW n ss rs = false from bad (n := n) hlt hlr h)
        have HNX := Lib.hid (HG.out.next hlt hlr)
        have HT := Lib.hid (show ss.take (m + 1) = ss.take m ++ [ss[m]] from List.take_succ_eq_append_getElem hlt)
        have HTL := Lib.hid (show (ss.take m).length = m by rw [List.length_take]; omega)
        obtain ⟨s, hs⟩ : ∃ s, s = ss[m] := ⟨_, rfl⟩
        obtain ⟨x, hx⟩ : ∃ x, x = rs[m].1 := ⟨_, rfl⟩
        obtain ⟨y, hy⟩ : ∃ y, y = rs[m].2 := ⟨_, rfl⟩
        rw [← hs] at hc0 HBAD HNX HT
        rw [← hx] at hd0 HI HBAD HNX
        rw [← hy] at hd1 HI HBAD HNX
        clear hs hx hy hb
        rcases Int.lt_or_le s 0 with h0 | h0
        · have HN := Lib.hid (show M = false by rw [HM.out]; exact HBAD.out (.inl h0))
          go_wp2
          go_ret
          exact ⟨by rw [HN.out]; rfl, HB.out⟩
        rcases Int.lt_or_le s (n : Int) with h1 | h1
        · by_cases h2 : s ∈ ss.take m
          · have HN := Lib.hid (show M = false by rw [HM.out]; exact HBAD.out (.inr (.inr (.inl h2))))
            have hlk := run_look_yes HMP.out h2
            clear h2
            go_wp2
            go_ret
            exact ⟨by rw [HN.out]; rfl, HB.out⟩
          · have hlk := run_look_no HMP.out h2
            have HNO := Lib.hid h2
            have HC := Lib.hid (HWI.out wr x y HI.out.2.2)
            cases hw : win n x y with
            | false =>
              have HN := Lib.hid (show M = false by rw [HM.out]; exact HBAD.out (.inr (.inr (.inr hw))))
              rw [hw] at HC
              clear hw h2
              go_wp2_with fail
              refine HC.out.mono ?_
              rintro e w2 ⟨rfl, hb2⟩
              have HB2 := Lib.hid (HB.out.trans (hb2.mono HB.out.size))
              clear hb2 HC
              go_wp2
              go_ret
              exact ⟨by rw [HN.out]; rfl, HB2.out⟩
            | true =>
              have HGN := Lib.hid (HNX.out h0 h1 h2 hw)
              rw [hw] at HC
              clear hw h2
              go_wp2_with fail
              refine HC.out.mono ?_
              rintro e w2 ⟨rfl, hb2⟩
              have hmp : w2.heap[w.heap.size]? = some (.map (kents (ss.take m)).toArray (ss.take m).length) := by rw [HTL.out]; exact (hb2.block _ hwr).trans HMP.out
              have hpt := run_put hmp HNO.out
              rw [HTL.out, ← HT.out] at hpt
              have HB2 := Lib.hid (HB.out.trans (hb2.mono HB.out.size))
              have hw2 : w.heap.size < w2.heap.size := Nat.lt_of_lt_of_le hwr hb2.size
              have HAT := Lib.hid (putMap_at (c := m + 1) (es := kents (ss.take (m + 1))) hw2)
              have HPB := Lib.hid (putMap_below (c := m + 1) (es := kents (ss.take (m + 1))) HB2.out (Nat.le_refl w.heap.size))
              clear hb2 HC hmp HNO
              go_wp2
              refine ⟨⟨m + 1, by omega, by go_num, HAT.out, HGN.out, HPB.out⟩, by simp [intOf]; omega⟩
        · have HN := Lib.hid (show M = false by rw [HM.out]; exact HBAD.out (.inr (.inl h1)))
          go_wp2
          go_ret
          exact ⟨by rw [HN.out]; rfl, HB.out⟩
      · obtain rfl : m = ss.length := by omega
        have HN := Lib.hid (show M = true by rw [HM.out]; exact HG.out.all HL.out)
        have hnl : decide ((ss.length : Int) < (rs.length : Int)) = false := decide_eq_false (by have := HL.out; omega)
        have hnl2 : ¬ (ss.length : Int) < (rs.length : Int) := by have := HL.out; omega
        clear hb hlt hm
        go_wp2
        go_ret
        exact ⟨by rw [HN.out]; rfl, HB.out⟩
  · have HN := Lib.hid (show M = false by rw [HM.out]; exact decide_eq_false (fun h => hlen h.1))
    have hne : ((ss.length : Int) != (rs.length : Int)) = true := by simp; omega
    have hne2 : ¬ (ss.length : Int) = (rs.length : Int) := by omega
    clear hlen
    go_wp2
    go_ret
    exact ⟨by rw [HN.out]; rfl, Below.refl _ _⟩
end Chn
end Go.Proofs.YtleehhpodgbomaaGreatDoor
/- What a chain's writing leaves of a device's words, of no program: the last slot first. -/
namespace Go.Proofs.YtleehhpodgbomaaGreatDoor
namespace Chn

/-- slots and runs that may be a chain's -/
structure Wr (n : Nat) (S : List Nat) (R : List (Nat × Nat)) : Prop where
  n64 : n ≤ 65534
  len : R.length = S.length
  slot : ∀ s ∈ S, s < n
  once : S.Nodup
  run : ∀ r ∈ R, 1 ≤ r.2 ∧ r.1 + r.2 ≤ n
theorem Wr.few {n : Nat} {S : List Nat} {R : List (Nat × Nat)} (h : Wr n S R) : S.length ≤ n := by
  have := List.Nodup.length_le_of_subset (l₁ := S) (l₂ := List.range n) h.once (fun x hx => List.mem_range.2 (h.slot x hx))
  simpa using this
theorem wr_of {n : Nat} (hn : n ≤ 65534) {ss : List Int} {rs : List (Int × Int)} (h : mayW n ss rs = true) : ∃ S R, ss = S.map Int.ofNat ∧ rs = R.map (fun r : Nat × Nat => ((r.1 : Int), (r.2 : Int))) ∧ Wr n S R := by
  obtain ⟨h1, h2, h3, h4⟩ := of_decide_eq_true h
  have e1 : ss = (ss.map Int.toNat).map Int.ofNat := by
    rw [List.map_map]
    conv => lhs; rw [← List.map_id ss]
    refine List.map_congr_left (fun s hs => ?_)
    have := h2 s hs
    simp only [Function.comp_apply, id_eq, Int.ofNat_eq_natCast]
    omega
  have e2 : rs = (rs.map (fun r => (r.1.toNat, r.2.toNat))).map (fun r : Nat × Nat => ((r.1 : Int), (r.2 : Int))) := by
    rw [List.map_map]
    conv => lhs; rw [← List.map_id rs]
    refine List.map_congr_left (fun r hr => ?_)
    have := of_decide_eq_true (h4 r hr)
    obtain ⟨x, y⟩ := r
    simp only [Function.comp_apply, id_eq] at this ⊢
    rw [Prod.mk.injEq]
    omega
  refine ⟨_, _, e1, e2, hn, by simp [h1], fun s hs => ?_, ?_, fun r hr => ?_⟩
  · obtain ⟨i, hi, rfl⟩ := List.mem_map.1 hs
    have := h2 i hi
    omega
  · rw [e1] at h3
    exact List.Pairwise.of_map Int.ofNat (fun a b hab e => hab (by rw [e])) h3
  · obtain ⟨q, hq, rfl⟩ := List.mem_map.1 hr
    have := of_decide_eq_true (h4 q hq)
    simp only
    omega
theorem may_of {n : Nat} {S : List Nat} {R : List (Nat × Nat)} (h : Wr n S R) : mayW n (S.map Int.ofNat) (R.map (fun r : Nat × Nat => ((r.1 : Int), (r.2 : Int)))) = true := by
  refine decide_eq_true ⟨by simp [h.len], fun s hs => ?_, ?_, fun r hr => ?_⟩
  · obtain ⟨i, hi, rfl⟩ := List.mem_map.1 hs
    have := h.slot i hi
    simp only [Int.ofNat_eq_natCast]
    omega
  · exact List.Pairwise.map Int.ofNat (fun a b hab e => hab (Int.ofNat.inj e)) h.once
  · obtain ⟨q, hq, rfl⟩ := List.mem_map.1 hr
    have := h.run q hq
    exact decide_eq_true (by simp only; omega)

/-- the k-th part -/
def pk (S : List Nat) (R : List (Nat × Nat)) (k : Nat) : Pt := ⟨S[k]?.getD 0, (R[k]?.getD (0, 0)).1, (R[k]?.getD (0, 0)).2, S[k + 1]?.getD 65535⟩
/-- its word -/
def pw (p : Pt) : Nat := Slo.wd p.x p.c p.q
/-- the words behind so many rounds: the last slot first -/
def wk (W : List Nat) (b : Nat) (S : List Nat) (R : List (Nat × Nat)) : Nat → List Nat
  | 0 => W
  | k + 1 => (wk W b S R k).set (b + (pk S R (S.length - 1 - k)).s) (pw (pk S R (S.length - 1 - k)))
theorem wk_len (W : List Nat) (b : Nat) (S : List Nat) (R : List (Nat × Nat)) : ∀ k, (wk W b S R k).length = W.length
  | 0 => rfl
  | k + 1 => by unfold wk; rw [List.length_set, wk_len W b S R k]
section
variable {W : List Nat} {b n : Nat} {S : List Nat} {R : List (Nat × Nat)}
theorem pk_s {k : Nat} (hk : k < S.length) : (pk S R k).s = S[k] := by simp [pk, hk]
theorem pk_may (h : Wr n S R) {k : Nat} (hk : k < S.length) : (1 ≤ (pk S R k).c ∧ (pk S R k).x + (pk S R k).c ≤ n) ∧ ((pk S R k).q < n ∨ (pk S R k).q = 65535) ∧ Slo.may (pk S R k).x (pk S R k).c (Slo.nx (pk S R k).q) = true := by
  have hr : k < R.length := by rw [h.len]; exact hk
  have h1 := h.run R[k] (List.getElem_mem hr)
  have e1 : (pk S R k).x = R[k].1 := by simp [pk, hr]
  have e2 : (pk S R k).c = R[k].2 := by simp [pk, hr]
  have h2 : (pk S R k).q < n ∨ (pk S R k).q = 65535 := by
    unfold pk
    simp only
    rcases Nat.lt_or_ge (k + 1) S.length with h3 | h3
    · rw [List.getElem?_eq_getElem h3, Option.getD_some]
      exact .inl (h.slot _ (List.getElem_mem h3))
    · rw [List.getElem?_eq_none h3]
      exact .inr rfl
  have h64 := h.n64
  refine ⟨by rw [e1, e2]; exact h1, h2, Slo.may_iff.2 ?_⟩
  rw [e1, e2]
  generalize (pk S R k).q = q at *
  unfold Slo.May Slo.nx
  split <;> omega
/-- a word of a slot that is written -/
theorem wk_at (h : Wr n S R) (hW : b + n ≤ W.length) : ∀ {k : Nat}, k ≤ S.length → ∀ {j : Nat} (hj : j < S.length), S.length - k ≤ j → (wk W b S R k)[b + S[j]]?.getD 0 = pw (pk S R j)
  | 0, _, j, hj, h1 => by omega
  | k + 1, hk, j, hj, h1 => by
    have hi : S.length - 1 - k < S.length := by omega
    have hs := h.slot S[j] (List.getElem_mem hj)
    unfold wk
    rw [pk_s hi]
    by_cases e : j = S.length - 1 - k
    · subst e
      rw [List.getElem?_set_self (by rw [wk_len]; omega), Option.getD_some]
    · have hne : S[S.length - 1 - k] ≠ S[j] := fun e2 => e ((List.getElem_inj h.once).1 e2).symm
      rw [List.getElem?_set_ne (by omega)]
      exact wk_at h hW (by omega) hj (by omega)
/-- no other word changes -/
theorem wk_else (h : Wr n S R) {i : Nat} (hi : ∀ s ∈ S, i ≠ b + s) : ∀ {k : Nat}, k ≤ S.length → (wk W b S R k)[i]? = W[i]?
  | 0, _ => rfl
  | k + 1, hk => by
    have hl : S.length - 1 - k < S.length := by omega
    unfold wk
    rw [pk_s hl, List.getElem?_set_ne (fun e => hi _ (List.getElem_mem hl) e.symm)]
    exact wk_else h hi (by omega)
/-- the number with which the chain from the k-th slot on begins -/
def hd (S : List Nat) (k : Nat) : Int := Slo.nx (S[k]?.getD 65535)
theorem hd_some (h : Wr n S R) {k : Nat} (hk : k < S.length) : hd S k = (S[k] : Int) := by
  unfold hd
  rw [List.getElem?_eq_getElem hk, Option.getD_some]
  exact Slo.nx_some (by have := h.slot S[k] (List.getElem_mem hk); have := h.n64; omega)
theorem hd_none {k : Nat} (hk : S.length ≤ k) : hd S k = -1 := by
  unfold hd
  rw [List.getElem?_eq_none hk]
  rfl
/-- a chain of what is read: the words of a row from b on -/
def fw (W : List Nat) (b i : Nat) : Option (Nat × Nat × Nat) := Slo.dec (W[b + i]?.getD 0)
theorem wk_path (h : Wr n S R) (hW : b + n ≤ W.length) : ∀ {k : Nat}, k ≤ S.length → Path (pat (fw (wk W b S R S.length) b) n) (hd S (S.length - k)) ((List.range' (S.length - k) k).map (pk S R)) (-1)
  | 0, _ => hd_none (Nat.le_refl _)
  | k + 1, hk => by
    have hi : S.length - (k + 1) < S.length := by omega
    have hs := h.slot S[S.length - (k + 1)] (List.getElem_mem hi)
    obtain ⟨⟨m1, m2⟩, m3, m4⟩ := pk_may h hi
    rw [List.range'_succ, List.map_cons, show S.length - (k + 1) + 1 = S.length - k by omega, hd_some h hi]
    refine ⟨by omega, ?_, ?_⟩
    · have hw : fw (wk W b S R S.length) b S[S.length - (k + 1)] = some ((pk S R (S.length - (k + 1))).x, (pk S R (S.length - (k + 1))).c, (pk S R (S.length - (k + 1))).q) := by
        unfold fw
        rw [wk_at h hW (Nat.le_refl _) hi (by omega)]
        exact Slo.dec_wd m4
      rw [pat_yes hw hs m2]
      congr 1
      have e := pk_s (R := R) hi
      generalize pk S R (S.length - (k + 1)) = p at *
      obtain ⟨a1, a2, a3, a4⟩ := p
      simp only at e
      subst e
      rfl
    · have e : Slo.nx (pk S R (S.length - (k + 1))).q = hd S (S.length - k) := by
        unfold pk hd
        simp only
        rw [show S.length - (k + 1) + 1 = S.length - k by omega]
      rw [e]
      exact wk_path h hW (by omega)
/-- the parts -/
def pts (S : List Nat) (R : List (Nat × Nat)) : List Pt := (List.range' 0 S.length).map (pk S R)
theorem pts_len : (pts S R).length = S.length := by simp [pts]
theorem pts_get {k : Nat} (hk : k < (pts S R).length) : (pts S R)[k] = pk S R k := by simp [pts]
theorem wk_read (h : Wr n S R) (hW : b + n ≤ W.length) : rd (pat (fw (wk W b S R S.length) b) n) n (hd S 0) = some (pts S R) := by
  have := wk_path h hW (Nat.le_refl S.length)
  rw [Nat.sub_self] at this
  exact rd_yes this
end
end Chn
end Go.Proofs.YtleehhpodgbomaaGreatDoor
/- chain.Write. -/
namespace Go.Proofs.YtleehhpodgbomaaGreatDoor
open Go.RowKit Go.Shelf Go.MapKept
attribute [local go_sem] Oper.semAt_some
namespace Chn
open Vol (Vo Up Kq)

set_option maxHeartbeats 1000000 in
theorem back_in (F : Fence) (f : Nat) (hf : F.fn 37) (hro : F.round = none) (A : Option Addr) (n c : Nat) (w : World) :
    CallsIn F f Tryz.prog 37 #[.slice A n c] w fun e w' => e = .returned (.func (.func 60) #[] #[.pointer (some ⟨w.heap.size, 0, none⟩)]) ∧ w' = w.alloc (.cells #[.slice A n c] 33) := by
  refine callsIn_of_wp Tryz.func37 rfl hf ?_ hro
  simp only [Tryz.ntmps37, List.size_toArray, List.length_cons, List.length_nil, Nat.reduceAdd, Nat.reduceSub, Array.replicate_succ, Array.replicate_zero, List.push_toArray, List.append_toArray, List.nil_append, List.cons_append]
  gi_wp2
  go_ret
  exact ⟨rfl, rfl⟩

section
variable {Q : Nat → Prop} {w w' : World} {vb a n m s : Nat} {W : List Nat} {st sn : Nat}
/-- but one block, which isn't the device's, all is as it was -/
theorem up_off (h : Up Q w a W st sn) {L : Nat} (hL : Q L) (ho : Pm.Off (fun k => k = L) w w') : Up Q w' a W st sn := by
  obtain ⟨A, ⟨D, hrep, e, ok, hf, hq⟩, r⟩ := h
  exact ⟨A, ⟨D, hrep.keep (fun k hk => ho.block k (hrep.foot_lt hk) (fun e => hf k hk (by rw [e]; exact hL))), e, ok, hf, fun k hk => Nat.lt_of_lt_of_le (hq k hk) ho.size⟩, r⟩
theorem vo_off (h : Vo Q w vb a n m s W st sn) {L : Nat} (hL : Q L) (hne : vb ≠ L) (ho : Pm.Off (fun k => k = L) w w') : Vo Q w' vb a n m s W st sn :=
  ⟨(ho.block vb h.lt hne).trans h.vol, h.q, up_off h.up hL ho, h.may, h.len⟩
theorem box_off {b : Nat} {t : TypeId} {v : Value} (h : Boxed w b t v) {L : Nat} (hne : b ≠ L) (ho : Pm.Off (fun k => k = L) w w') : Boxed w' b t v := (ho.block b h.lt hne).trans h
theorem kq_off {w2 : World} (h : Kq Q w w') {L : Nat} (hL : w.heap.size ≤ L) (ho : Pm.Off (fun k => k = L) w' w2) : Kq Q w w2 := Pm.Off.trans h ho (fun b hb e => by omega)
theorem prs_kq {B : Option Addr} {l : List (Int × Int)} (h : Prs w B l) (hk : Kq Q w w') (hq : ∀ x, B = some x → l ≠ [] → Q x.block) : Prs w' B l :=
  ⟨h.i64, h.len, fun j hj => by
    obtain ⟨b, o, e, hlt, hc, hd⟩ := h.at' j hj
    have hb := hk.at (hq _ e (fun h0 => by rw [h0] at hj; exact absurd hj (by simp))) hlt
    exact ⟨b, o, e, Nat.lt_of_lt_of_le hlt hk.size, (World.cell?_of_block (w := w) (a := ⟨b, o + j * 2, none⟩) hb).trans hc, (World.cell?_of_block (w := w) (a := ⟨b, o + j * 2 + 1, none⟩) hb).trans hd⟩⟩
theorem nts_kq {B : Option Addr} {l : List Int} (h : Pack.Nts w B l) (hk : Kq Q w w') (hq : ∀ x, B = some x → l ≠ [] → Q x.block) : Pack.Nts w' B l :=
  ⟨h.i64, h.len, fun j hj => by
    obtain ⟨b, o, e, hlt, hc⟩ := h.at' j hj
    have hb := hk.at (hq _ e (fun h0 => by rw [h0] at hj; exact absurd hj (by simp))) hlt
    exact ⟨b, o, e, Nat.lt_of_lt_of_le hlt hk.size, (World.cell?_of_block (w := w) (a := ⟨b, o + j, none⟩) hb).trans hc⟩⟩

/-- between two rounds -/
structure Mid (Q : Nat → Prop) (w : World) (b0 b1 b2 b3 b4 b5 : Nat) (vb a n m s : Nat) (W : List Nat) (st sn : Nat) (A B : Option Addr) (c d : Nat) (S : List Nat) (R : List (Nat × Nat)) (k : Nat) (X : World) : Prop where
  vo : Vo (fun x => Q x ∨ (w.heap.size ≤ x ∧ x < b5)) X vb a n m s (wk W (16 + m * 8) S R k) (st + 2 * k) (sn + k)
  vol : Boxed X b0 26 (.pointer (some ⟨vb, 0, none⟩))
  runs : Boxed X b1 53 (.slice B R.length d)
  err : Boxed X b2 37 (.int .i64 0)
  next : Boxed X b3 3 (.int .i64 (hd S (S.length - k)))
  slots : Boxed X b4 33 (.slice A S.length c)
  kq : Kq Q w X
  size : b5 ≤ X.heap.size

theorem get_set {l : Array Bool} {i : Nat} (hi : i < l.size) (j : Nat) : (l.setIfInBounds i true).getD j false = if i = j then true else l.getD j false := by
  simp only [Array.getD_eq_getD_getElem?, Array.getElem?_setIfInBounds]
  by_cases h : i = j
  · subst h
    simp [hi]
  · simp [h]
theorem run_blocks (u v x : Value) (W : World) : (Instr.field 80 (.agg #[u, v, x]) 0).run Tryz.prog W = .ok u W := by kernel_rfl
theorem bel_drew {N : Nat} (w : World) : Below N w w.drew := ⟨rfl, rfl, rfl, Nat.le_refl _, fun _ _ => rfl⟩
set_option maxHeartbeats 4000000 in
set_option maxRecDepth 100000 in
theorem write_no (h : Vo Q w vb a n m s W st sn) (A B : Option Addr) (c d : Nat) (ss : List Int) (rs : List (Int × Int)) (hs : Pack.Nts w A ss) (hr : Prs w B rs) (hm : mayW n ss rs = false) :
    Calls Tryz.prog 18 #[.pointer (some ⟨vb, 0, none⟩), .slice A ss.length c, .slice B rs.length d] w fun r w' => r = .returned (.int .i64 1) ∧ Below w.heap.size w w' := by
  have hn := h.num.1.2
  have HG := Lib.hid (fun w' (hb : Below w.heap.size w w') => Vol.geometry_any (h.keep hb))
  have HM := Lib.hid (fun w' (hb : Below w.heap.size w w') => mayWrite_any w' n (by omega) A B c d ss rs (hs.keep hb) (hr.keep hb))
  rw [hm] at HM
  clear h hs hr hm hn
  refine (callsIn_wide (n := 3)).1 ?_
  refine callsIn_of_wp_marks Tryz.func18 rfl trivial ?_ rfl
  simp only [Tryz.ntmps18, List.size_toArray, List.length_cons, List.length_nil, Nat.reduceAdd, Nat.reduceSub, Array.replicate_succ, Array.replicate_zero, List.push_toArray, List.append_toArray, List.nil_append, List.cons_append]
  refine wpIn_wide.2 ?_
  go_wp2_with fail
  have hb0 := (((Below.refl w.heap.size w).alloc (Nat.le_refl _) (.cells #[.pointer (some ⟨vb, 0, none⟩)] 26)).alloc (by simp) (.cells #[.slice B rs.length d] 53)).alloc (by simp; omega) (.cells #[.int .i64 0] 37)
  have bx0 : Boxed ((w.alloc (.cells #[.pointer (some ⟨vb, 0, none⟩)] 26)).alloc (.cells #[.slice B rs.length d] 53) |>.alloc (.cells #[.int .i64 0] 37)) w.heap.size 26 (.pointer (some ⟨vb, 0, none⟩)) := ((Boxed.new w 26 _).alloc _).alloc _
  have bx1 := (Boxed.new (w.alloc (.cells #[.pointer (some ⟨vb, 0, none⟩)] 26)) 53 (.slice B rs.length d)).alloc (.cells #[.int .i64 0] 37)
  have bx2 := Boxed.new ((w.alloc (.cells #[.pointer (some ⟨vb, 0, none⟩)] 26)).alloc (.cells #[.slice B rs.length d] 53)) 37 (.int .i64 0)
  simp only [World.size_alloc] at bx1 bx2
  have HB0 := Lib.hid hb0
  have BX0 := Lib.hid bx0
  have BX1 := Lib.hid bx1
  have BX2 := Lib.hid bx2
  clear hb0 bx0 bx1 bx2
  generalize ((w.alloc (.cells #[.pointer (some ⟨vb, 0, none⟩)] 26)).alloc (.cells #[.slice B rs.length d] 53)).alloc (.cells #[.int .i64 0] 37) = w0 at *
  have c0 := BX0.out.cell
  have c1 := BX1.out.cell
  have l0 := BX0.out.lt
  have l1 := BX1.out.lt
  have HC := Lib.hid (HG.out w0.drew (HB0.out.trans (bel_drew _)))
  have hrf := run_blocks (.int .i64 (n : Int)) (.int .i64 (m : Int)) (.int .i64 (s : Int))
  go_region_held3 (fun W' => W'.cell? ⟨w.heap.size, 0, none⟩ = some (.pointer (some ⟨vb, 0, none⟩)) ∧ W'.cell? ⟨w.heap.size + 1, 0, none⟩ = some (.slice B rs.length d)) (go_keep)
    (first
    | (go_at_call 29
       with_reducible refine HC.out.mono ?_
       rintro r w1 ⟨rfl, hb⟩
       have HB1 := Lib.hid ((HB0.out.trans (bel_drew w0)).trans (hb.mono HB0.out.size))
       have BX01 := Lib.hid (show Boxed w1 w.heap.size 26 (.pointer (some ⟨vb, 0, none⟩)) from (hb.block _ l0).trans BX0.out)
       have BX11 := Lib.hid (show Boxed w1 (w.heap.size + 1) 53 (.slice B rs.length d) from (hb.block _ l1).trans BX1.out)
       have BX21 := Lib.hid (show Boxed w1 (w.heap.size + 1 + 1) 37 (.int .i64 0) from (hb.block _ BX2.out.lt).trans BX2.out)
       clear hb
       have c01 := BX01.out.cell
       have c11 := BX11.out.cell
       have HC1 := Lib.hid (HM.out w1 HB1.out))
    | (go_at_call 36
       with_reducible refine HC1.out.mono ?_
       rintro r w2 ⟨rfl, hb⟩
       have HB2 := Lib.hid (HB1.out.trans (hb.mono HB1.out.size))
       have BX02 := Lib.hid (show Boxed w2 w.heap.size 26 (.pointer (some ⟨vb, 0, none⟩)) from (hb.block _ BX01.out.lt).trans BX01.out)
       have BX12 := Lib.hid (show Boxed w2 (w.heap.size + 1) 53 (.slice B rs.length d) from (hb.block _ BX11.out.lt).trans BX11.out)
       have BX22 := Lib.hid (show Boxed w2 (w.heap.size + 1 + 1) 37 (.int .i64 0) from (hb.block _ BX21.out.lt).trans BX21.out)
       clear hb
       have c02 := BX02.out.cell
       have c12 := BX12.out.cell))
  have c22 := BX22.out.cell
  have f22 := BX22.out.frozen
  clear c0 c1 l0 l1 c01 c11 c02 c12 HC HC1 BX0 BX1 BX2 BX01 BX11 BX21 BX02 BX12
  go_wp2
  refine ⟨.int .i64 1, ?_, rfl, HB2.out.setCell (p := ⟨w.heap.size + 1 + 1, 0, none⟩) (by show w.heap.size ≤ w.heap.size + 1 + 1; omega) _⟩
  simp [results, Tryz.results18, go_sem, c22]

set_option maxHeartbeats 4000000 in
set_option maxRecDepth 100000 in
theorem write_yes (h : Vo Q w vb a n m s W st sn) (A B : Option Addr) (c d : Nat) (S : List Nat) (R : List (Nat × Nat)) (hs : Pack.Nts w A (S.map Int.ofNat)) (hr : Prs w B (R.map (fun r : Nat × Nat => ((r.1 : Int), (r.2 : Int))))) (hwr : Wr n S R)
    (hqa : ∀ x, A = some x → S ≠ [] → Q x.block) (hqb : ∀ x, B = some x → R ≠ [] → Q x.block) (hst : st + 2 * S.length < 100000000000) :
    Calls Tryz.prog 18 #[.pointer (some ⟨vb, 0, none⟩), .slice A S.length c, .slice B R.length d] w fun r w' => r = .returned (.int .i64 0) ∧ Vo Q w' vb a n m s (wk W (16 + m * 8) S R S.length) (st + 2 * S.length) (sn + S.length) ∧ Kq Q w w' := by
  have hn := h.num.1.2
  have HG := Lib.hid (fun w' (hb : Below w.heap.size w w') => Vol.geometry_any (h.keep hb))
  have HM := Lib.hid (fun w' (hb : Below w.heap.size w w') => mayWrite_any w' n (by omega) A B c d (S.map Int.ofNat) (R.map (fun r : Nat × Nat => ((r.1 : Int), (r.2 : Int)))) (hs.keep hb) (hr.keep hb))
  rw [show mayW n _ _ = true from may_of hwr] at HM
  have HS := Lib.hid hs
  have HR := Lib.hid hr
  have HV := Lib.hid h
  have HWR := Lib.hid hwr
  have HQA := Lib.hid hqa
  have HQB := Lib.hid hqb
  clear h hs hr hwr hn hqa hqb
  simp only [List.length_map] at HM
  refine (callsIn_wide (n := 3)).1 ?_
  refine callsIn_of_wp_marks Tryz.func18 rfl trivial ?_ rfl
  simp only [Tryz.ntmps18, List.size_toArray, List.length_cons, List.length_nil, Nat.reduceAdd, Nat.reduceSub, Array.replicate_succ, Array.replicate_zero, List.push_toArray, List.append_toArray, List.nil_append, List.cons_append]
  refine wpIn_wide.2 ?_
  go_wp2_with fail
  have hb0 := (((Below.refl w.heap.size w).alloc (Nat.le_refl _) (.cells #[.pointer (some ⟨vb, 0, none⟩)] 26)).alloc (by simp) (.cells #[.slice B R.length d] 53)).alloc (by simp; omega) (.cells #[.int .i64 0] 37)
  have bx0 : Boxed ((w.alloc (.cells #[.pointer (some ⟨vb, 0, none⟩)] 26)).alloc (.cells #[.slice B R.length d] 53) |>.alloc (.cells #[.int .i64 0] 37)) w.heap.size 26 (.pointer (some ⟨vb, 0, none⟩)) := ((Boxed.new w 26 _).alloc _).alloc _
  have bx1 := (Boxed.new (w.alloc (.cells #[.pointer (some ⟨vb, 0, none⟩)] 26)) 53 (.slice B R.length d)).alloc (.cells #[.int .i64 0] 37)
  have bx2 := Boxed.new ((w.alloc (.cells #[.pointer (some ⟨vb, 0, none⟩)] 26)).alloc (.cells #[.slice B R.length d] 53)) 37 (.int .i64 0)
  simp only [World.size_alloc] at bx1 bx2
  have HB0 := Lib.hid hb0
  have BX0 := Lib.hid bx0
  have BX1 := Lib.hid bx1
  have BX2 := Lib.hid bx2
  clear hb0 bx0 bx1 bx2
  generalize ((w.alloc (.cells #[.pointer (some ⟨vb, 0, none⟩)] 26)).alloc (.cells #[.slice B R.length d] 53)).alloc (.cells #[.int .i64 0] 37) = w0 at *
  have c0 := BX0.out.cell
  have c1 := BX1.out.cell
  have l0 := BX0.out.lt
  have l1 := BX1.out.lt
  have HC := Lib.hid (HG.out w0.drew (HB0.out.trans (bel_drew _)))
  have hrf := run_blocks (.int .i64 (n : Int)) (.int .i64 (m : Int)) (.int .i64 (s : Int))
  go_region_held3 (fun W' => W'.cell? ⟨w.heap.size, 0, none⟩ = some (.pointer (some ⟨vb, 0, none⟩)) ∧ W'.cell? ⟨w.heap.size + 1, 0, none⟩ = some (.slice B R.length d)) (go_keep)
    (first
    | (go_at_call 29
       with_reducible refine HC.out.mono ?_
       rintro r w1 ⟨rfl, hb⟩
       have HB1 := Lib.hid ((HB0.out.trans (bel_drew w0)).trans (hb.mono HB0.out.size))
       have BX01 := Lib.hid (show Boxed w1 w.heap.size 26 (.pointer (some ⟨vb, 0, none⟩)) from (hb.block _ l0).trans BX0.out)
       have BX11 := Lib.hid (show Boxed w1 (w.heap.size + 1) 53 (.slice B R.length d) from (hb.block _ l1).trans BX1.out)
       have BX21 := Lib.hid (show Boxed w1 (w.heap.size + 1 + 1) 37 (.int .i64 0) from (hb.block _ BX2.out.lt).trans BX2.out)
       clear hb
       have c01 := BX01.out.cell
       have c11 := BX11.out.cell
       have HC1 := Lib.hid (HM.out w1 HB1.out))
    | (go_at_call 36
       with_reducible refine HC1.out.mono ?_
       rintro r w2 ⟨rfl, hb⟩
       have HB2 := Lib.hid (HB1.out.trans (hb.mono HB1.out.size))
       have BX02 := Lib.hid (show Boxed w2 w.heap.size 26 (.pointer (some ⟨vb, 0, none⟩)) from (hb.block _ BX01.out.lt).trans BX01.out)
       have BX12 := Lib.hid (show Boxed w2 (w.heap.size + 1) 53 (.slice B R.length d) from (hb.block _ BX11.out.lt).trans BX11.out)
       have BX22 := Lib.hid (show Boxed w2 (w.heap.size + 1 + 1) 37 (.int .i64 0) from (hb.block _ BX21.out.lt).trans BX21.out)
       clear hb
       have c02 := BX02.out.cell
       have c12 := BX12.out.cell))
  clear c0 c1 l0 l1 c01 c11 c02 c12 HC HC1 BX0 BX1 BX2 BX01 BX11 BX21
  go_wp2_with fail
  refine ((callsIn_wide (n := 1)).1 (back_in Fence.wide 1 trivial rfl A S.length c _)).mono ?_
  rintro r w3 ⟨rfl, rfl⟩
  go_wp2_with fail
  have hb3 := HB2.out.alloc HB2.out.size (.cells #[.int .i64 (-1)] 3)
  have hz3 := World.size_alloc w2 (.cells #[.int .i64 (-1)] 3)
  have hb4 := hb3.alloc hb3.size (.cells #[.slice A S.length c] 33)
  have hz4 := World.size_alloc (w2.alloc (.cells #[.int .i64 (-1)] 3)) (.cells #[.slice A S.length c] 33)
  have bx3 := (Boxed.new w2 3 (.int .i64 (-1))).alloc (.cells #[.slice A S.length c] 33)
  have bx4 := Boxed.new (w2.alloc (.cells #[.int .i64 (-1)] 3)) 33 (.slice A S.length c)
  rw [hz3] at bx4 hz4
  have bx0 := (BX02.out.alloc (.cells #[.int .i64 (-1)] 3)).alloc (.cells #[.slice A S.length c] 33)
  have bx1 := (BX12.out.alloc (.cells #[.int .i64 (-1)] 3)).alloc (.cells #[.slice A S.length c] 33)
  have bx2 := (BX22.out.alloc (.cells #[.int .i64 (-1)] 3)).alloc (.cells #[.slice A S.length c] 33)
  generalize (w2.alloc (.cells #[.int .i64 (-1)] 3)).alloc (.cells #[.slice A S.length c] 33) = w4 at *
  have HZ4 := Lib.hid hz4
  have HL2 := Lib.hid (show w.heap.size + 1 + 1 < w2.heap.size from BX22.out.lt)
  have HM0 := Lib.hid (fun r => show Mid Q w w.heap.size (w.heap.size + 1) (w.heap.size + 1 + 1) w2.heap.size (w2.heap.size + 1) (w4.heap.size + 2) vb a n m s W st sn A B c d S R 0 ((w4.alloc (.deferred (some []))).alloc (.loop r)) from by
    have hb5 := (hb4.alloc hb4.size (.deferred (some []))).alloc (by simp; have := hb4.size; omega) (.loop r)
    refine ⟨?_, (bx0.alloc _).alloc _, (bx1.alloc _).alloc _, (bx2.alloc _).alloc _, ?_, (bx4.alloc _).alloc _, Vol.kq_below hb5, by simp⟩
    · have := HV.out.grow hb5
      simp only [World.size_alloc] at this
      exact this
    · rw [Nat.sub_zero, hd_none (Nat.le_refl _)]
      exact (bx3.alloc _).alloc _)
  clear hb3 hz3 hb4 hz4 bx3 bx4 bx0 bx1 bx2 BX02 BX12 BX22
  refine (wpIn_wide (n := 3)).1 ?_
  refine range_back (F := Fence.wide) rfl (by omega) (gf := 60) (lb := #[.pointer (some ⟨w2.heap.size + 1, 0, none⟩)]) rfl trivial (enters_of Tryz.func60 (by kernel_rfl) rfl)
    (encs := bw (S.map Int.ofNat)) (N := S.length) (fun _ => rfl)
    (Mid Q w w.heap.size (w.heap.size + 1) (w.heap.size + 1 + 1) w2.heap.size (w2.heap.size + 1) (w4.heap.size + 2) vb a n m s W st sn A B c d S R) (fun _ => False) ?hI (fun _ _ h _ => h) HM0.out ?hseq
    (fun k => { tmps := #[.pointer (some ⟨vb, 0, none⟩), .slice A S.length c, .slice B R.length d, .pointer (some ⟨w.heap.size, 0, none⟩), undef, .pointer (some ⟨w.heap.size + 1, 0, none⟩), .pointer (some ⟨w.heap.size + 1 + 1, 0, none⟩), .pointer (some ⟨w2.heap.size, 0, none⟩),
      .int .i64 ((S.length : Int) - 1 - (k : Int)), .int .i64 ((Option.map Int.ofNat S[S.length - 1 - k]?).getD 0), undef, undef, .pointer (some ⟨vb, 0, none⟩), .agg #[.int .i64 (n : Int), .int .i64 (m : Int), .int .i64 (s : Int)], .int .i64 (n : Int), .slice A S.length c, .slice B R.length d, .bool true, .bool false, .slice A S.length c,
      .func (.func 60) #[] #[.pointer (some ⟨w2.heap.size + 1, 0, none⟩)], .int .i64 ((S.length : Int) - 1 - (k : Int)), .int .i64 ((Option.map Int.ofNat S[S.length - 1 - k]?).getD 0), undef, undef, undef, undef, undef, undef, undef, undef, undef, undef, undef, undef, undef, undef, undef, undef, undef, undef, undef, undef], defers := [] })
    ?assign ?body ?done (fun _ h _ => h.elim)
  case hI =>
    intro k X X' hi ho
    have hlt : w.heap.size + 1 + 1 < w4.heap.size + 1 := by have := HZ4.out; have := HL2.out; omega
    have hvl := HV.out.lt
    exact ⟨vo_off hi.vo (.inr ⟨by omega, by omega⟩) (by omega) ho, box_off hi.vol (by omega) ho, box_off hi.runs (by omega) ho, box_off hi.err (by omega) ho,
      box_off hi.next (by have := HZ4.out; omega) ho, box_off hi.slots (by have := HZ4.out; omega) ho, kq_off hi.kq (by omega) ho, Nat.le_trans hi.size ho.size⟩
  case hseq =>
    intro l J Jx X hJI hY h0
    have := back1_in Fence.wide 2 trivial rfl (by omega) l (w2.heap.size + 1) A c (S.map Int.ofNat) (by simp; have := HWR.out.few; have := HWR.out.n64; omega) J Jx (fun k X hj => by
      have hi := hJI k X hj
      exact ⟨by rw [List.length_map]; exact hi.slots.cell, nts_kq HS.out hi.kq (fun x hx h0 => HQA.out x hx (fun e => h0 (by rw [e]; rfl)))⟩) (fun k X hj hk => hY k X hj (by simpa using hk)) X h0
    rw [List.length_map] at this
    exact this
  case assign =>
    intro l k X K hK
    dsimp only [bw]
    gi_wp2
    exact hK
  case done =>
    intro X hi hD
    have HI := Lib.hid hi
    have HD := Lib.hid hD
    have c2 := hi.err.cell
    have f2 := hi.err.frozen
    have hz4 := HZ4.out
    have hl2 := HL2.out
    have hvl := HV.out.lt
    clear hi hD
    go_wp2
    have ho := (Pm.Off.refl (fun q => q = w.heap.size + 1 + 1) X).setCell (p := ⟨w.heap.size + 1 + 1, 0, none⟩) (fun _ => rfl) (.int .i64 0)
    have hk1 : (X.setCell ⟨w.heap.size + 1 + 1, 0, none⟩ (.int .i64 0)).heap[w4.heap.size]? = some (.deferred (some [])) := (Below.heap_setCell _ _ _ _ (by show w4.heap.size ≠ w.heap.size + 1 + 1; omega)).trans HD.out
    have hq2 := (HI.out.err.set (.int .i64 0)).kept (grownBy_putObj' _ w4.heap.size (.deferred none)) (by simp; omega)
    have hc2 := hq2.cell
    have hv := vo_off HI.out.vo (.inr ⟨by omega, by omega⟩) (by omega) ho
    have hkk := kq_off HI.out.kq (by omega) ho
    generalize X.setCell ⟨w.heap.size + 1 + 1, 0, none⟩ (.int .i64 0) = X2 at *
    refine ⟨by simp, .inl ⟨_, _, rfl, run_takeDeferred hk1, ?_⟩⟩
    refine ⟨.int .i64 0, ?_, rfl, ?_, ?_⟩
    · simp [results, Tryz.results18, go_sem, hc2]
    · exact (vo_off hv (.inr ⟨by omega, by omega⟩) (by omega) (off_put X2 w4.heap.size (.deferred none))).sub (fun k h => .inl h) HV.out.q
    · exact kq_off hkk (by omega) (off_put X2 w4.heap.size (.deferred none))
  case body =>
    intro l k X hi hk
    obtain ⟨j, hj⟩ : ∃ j, j = S.length - 1 - k := ⟨_, rfl⟩
    have hjl : j < S.length := by omega
    have hjr : j < R.length := by rw [HWR.out.len]; exact hjl
    rw [show (S.length : Int) - 1 - (k : Int) = (j : Int) by omega, ← hj, List.getElem?_eq_getElem hjl, Option.map_some, Option.getD_some]
    obtain ⟨⟨m1, m2⟩, m3, m4⟩ := pk_may HWR.out hjl
    obtain ⟨b, o, rfl, hbb, hd0, hd1⟩ := (prs_kq HR.out hi.kq (fun x hx h0 => HQB.out x hx (fun e => h0 (by rw [e]; rfl)))).at' j (by simpa using hjr)
    have e1 : (pk S R j).x = R[j].1 := by simp [pk, hjr]
    have e2 : (pk S R j).c = R[j].2 := by simp [pk, hjr]
    simp only [List.getElem_map, ← e1, ← e2] at hd0 hd1
    have hnx : hd S (S.length - k) = Slo.nx (pk S R j).q := by unfold hd pk; simp only; rw [show j + 1 = S.length - k by omega]
    have HI := Lib.hid hi
    have c0 := hi.vol.cell
    have c1 := hi.runs.cell
    have c3 := hi.next.cell
    rw [hnx] at c3
    have l0 := hi.vol.lt
    have l1 := hi.runs.lt
    have l3 := hi.next.lt
    have HJ := Lib.hid (show j = S.length - 1 - k ∧ k < S.length from ⟨hj, hk⟩)
    clear hi hj hk e1 e2 hnx
    have hjI : (j : Int) < (R.length : Int) := by omega
    gi_wp2_with fail
    obtain ⟨x, hx⟩ : ∃ x, x = (pk S R j).x := ⟨_, rfl⟩
    obtain ⟨y, hy⟩ : ∃ y, y = (pk S R j).c := ⟨_, rfl⟩
    obtain ⟨z, hz⟩ : ∃ z, z = Slo.nx (pk S R j).q := ⟨_, rfl⟩
    have HXYZ := Lib.hid (show x = (pk S R j).x ∧ y = (pk S R j).c ∧ z = Slo.nx (pk S R j).q from ⟨hx, hy, hz⟩)
    rw [← hx] at hd0
    rw [← hy] at hd1
    rw [← hz] at c3
    rw [← hx, ← hy] at m2 m4
    rw [← hy] at m1
    rw [← hz] at m4
    clear hx hy hz
    obtain ⟨sj, hsj⟩ : ∃ sj, sj = S[j] := ⟨_, rfl⟩
    have HSJ := Lib.hid hsj
    rw [← hsj]
    clear hsj
    refine wpIn_region_any (by kernel_rfl) ?_
    change wpAnyIn _ _ _ _ _ _ _ _ _ X.drew
    refine any_inv (fun l a' X' => ∃ u10 u23 u24 u25 u26 u27 u28 u29 u30 u31 u32 u33 u34 : Value, a' = { tmps := #[.pointer (some ⟨vb, 0, none⟩), .slice A S.length c, .slice (some ⟨b, o, none⟩) R.length d, .pointer (some ⟨w.heap.size, 0, none⟩), undef, .pointer (some ⟨w.heap.size + 1, 0, none⟩), .pointer (some ⟨w.heap.size + 1 + 1, 0, none⟩), .pointer (some ⟨w2.heap.size, 0, none⟩),
        .int .i64 (j : Int), .int .i64 (sj : Int), u10, undef, .pointer (some ⟨vb, 0, none⟩), .agg #[.int .i64 (n : Int), .int .i64 (m : Int), .int .i64 (s : Int)], .int .i64 (n : Int), .slice A S.length c, .slice (some ⟨b, o, none⟩) R.length d, .bool true, .bool false, .slice A S.length c,
        .func (.func 60) #[] #[.pointer (some ⟨w2.heap.size + 1, 0, none⟩)], .int .i64 (j : Int), .int .i64 (sj : Int), u23, u24, u25, u26, u27, u28, u29, u30, u31, u32, u33, u34, undef, undef, undef, undef, undef, undef, undef, undef], defers := [] } ∧
      (l.getD 0 false = true → u23 = .slice (some ⟨b, o, none⟩) R.length d) ∧ (l.getD 1 false = true → u24 = .int .i64 (j : Int)) ∧ (l.getD 2 false = true → u25 = .pointer (some ⟨b, o + j * 2, none⟩)) ∧ (l.getD 3 false = true → u26 = .pointer (some ⟨b, o + j * 2, none⟩)) ∧ (l.getD 4 false = true → u27 = .int .i64 (x : Int)) ∧
      (l.getD 5 false = true → u28 = .slice (some ⟨b, o, none⟩) R.length d) ∧ (l.getD 6 false = true → u29 = .int .i64 (j : Int)) ∧ (l.getD 7 false = true → u30 = .pointer (some ⟨b, o + j * 2, none⟩)) ∧ (l.getD 8 false = true → u31 = .pointer (some ⟨b, o + j * 2 + 1, none⟩)) ∧ (l.getD 9 false = true → u32 = .int .i64 (y : Int)) ∧
      (l.getD 10 false = true → u33 = .int .i64 z) ∧ (l.getD 11 false = true → u34 = .agg #[.int .i64 (x : Int), .int .i64 (y : Int), .int .i64 z]) ∧ (l.getD 12 false = true → u10 = .pointer (some ⟨X.heap.size, 0, none⟩)) ∧
      (l.getD 13 false = true → ∀ i, i < 13 → l.getD i false = true) ∧
      X' = if l.getD 13 false = true then (X.alloc (.cells #[.int .i64 (x : Int), .int .i64 (y : Int), .int .i64 z] 42)).drew else if l.getD 12 false = true then (X.alloc (.cells #[.int .i64 0, .int .i64 0, .int .i64 0] 42)).drew else X.drew) ?step ?fin _ _ _ _ (by simp) (by decide) ?start
    case start => exact ⟨_, _, _, _, _, _, _, _, _, _, _, _, _, rfl, by simp, by simp, by simp, by simp, by simp, by simp, by simp, by simp, by simp, by simp, by simp, by simp, by simp, by simp, by simp⟩
    case fin =>
      rintro l a' X' hsz ⟨u10, u23, u24, u25, u26, u27, u28, u29, u30, u31, u32, u33, u34, rfl, g0, g1, g2, g3, g4, g5, g6, g7, g8, g9, g10, g11, g12, g13, hX⟩ hi
      have hsz : l.size = 14 := hsz
      have hr := List.filter_eq_nil_iff.1 hi
      simp only [List.mem_range] at hr
      have hr0 := hr 0 (by decide)
      have hr1 := hr 1 (by decide)
      have hr2 := hr 2 (by decide)
      have hr3 := hr 3 (by decide)
      have hr4 := hr 4 (by decide)
      have hr5 := hr 5 (by decide)
      have hr6 := hr 6 (by decide)
      have hr7 := hr 7 (by decide)
      have hr8 := hr 8 (by decide)
      have hr9 := hr 9 (by decide)
      have hr10 := hr 10 (by decide)
      have hr11 := hr 11 (by decide)
      have hr12 := hr 12 (by decide)
      have hr13 := hr 13 (by decide)
      clear hr hi
      simp [Region.binds, hsz] at hr0 hr1 hr2 hr3 hr4 hr5 hr6 hr7 hr8 hr9 hr10 hr11 hr12 hr13
      have f0 := hr0
      have f1 := hr1
      have f5 := hr5
      have f6 := hr6
      have f10 := hr10
      have f12 := hr12
      have f2 : l[2] = true := by
        cases e : l[2] with
        | true => rfl
        | false => have := hr2 e f0; rw [f1] at this; cases this
      have f3 : l[3] = true := by
        cases e : l[3] with
        | true => rfl
        | false => have := hr3 e; rw [f2] at this; cases this
      have f4 : l[4] = true := by
        cases e : l[4] with
        | true => rfl
        | false => have := hr4 e; rw [f3] at this; cases this
      have f7 : l[7] = true := by
        cases e : l[7] with
        | true => rfl
        | false => have := hr7 e f5; rw [f6] at this; cases this
      have f8 : l[8] = true := by
        cases e : l[8] with
        | true => rfl
        | false => have := hr8 e; rw [f7] at this; cases this
      have f9 : l[9] = true := by
        cases e : l[9] with
        | true => rfl
        | false => have := hr9 e; rw [f8] at this; cases this
      have f11 : l[11] = true := by
        cases e : l[11] with
        | true => rfl
        | false => have := hr11 e f4 f9; rw [f10] at this; cases this
      have f13 : l[13] = true := by
        cases e : l[13] with
        | true => rfl
        | false => have := hr13 e f12 f11 f0 f1 f2 f3 f4 f5 f6 f7 f8 f9 f10 f11; rw [f12] at this; cases this
      clear hr0 hr1 hr2 hr3 hr4 hr5 hr6 hr7 hr8 hr9 hr10 hr11 hr12 hr13
      obtain rfl := g0 (by simp [Array.getD, hsz, f0])
      obtain rfl := g1 (by simp [Array.getD, hsz, f1])
      obtain rfl := g2 (by simp [Array.getD, hsz, f2])
      obtain rfl := g3 (by simp [Array.getD, hsz, f3])
      obtain rfl := g4 (by simp [Array.getD, hsz, f4])
      obtain rfl := g5 (by simp [Array.getD, hsz, f5])
      obtain rfl := g6 (by simp [Array.getD, hsz, f6])
      obtain rfl := g7 (by simp [Array.getD, hsz, f7])
      obtain rfl := g8 (by simp [Array.getD, hsz, f8])
      obtain rfl := g9 (by simp [Array.getD, hsz, f9])
      obtain rfl := g10 (by simp [Array.getD, hsz, f10])
      obtain rfl := g11 (by simp [Array.getD, hsz, f11])
      obtain rfl := g12 (by simp [Array.getD, hsz, f12])
      rw [if_pos (by simp [Array.getD, hsz, f13])] at hX
      subst hX
      clear g0 g1 g2 g3 g4 g5 g6 g7 g8 g9 g10 g11 g12 g13 f0 f1 f2 f3 f4 f5 f6 f7 f8 f9 f10 f11 f12 f13 hsz
      have hbX := ((Below.refl X.heap.size X).alloc (Nat.le_refl _) (.cells #[.int .i64 (x : Int), .int .i64 (y : Int), .int .i64 z] 42)).trans (bel_drew (N := X.heap.size) (X.alloc (.cells #[.int .i64 (x : Int), .int .i64 (y : Int), .int .i64 z] 42)))
      have hsn : sj < n := by rw [HSJ.out]; exact HWR.out.slot _ (List.getElem_mem hjl)
      have HSET := Lib.hid (Vol.setSlot_yes (HI.out.vo.keep hbX) sj x y (pk S R j).q z hsn HXYZ.out.2.2 (by rw [← HXYZ.out.2.2]; exact m4) (by have := HJ.out; omega))
      have HBX := Lib.hid hbX
      clear hbX
      gi_wp2_with fail
      generalize (X.alloc (.cells #[.int .i64 (x : Int), .int .i64 (y : Int), .int .i64 z] 42)).drew = X1 at *
      refine ⟨trivial, ?_⟩
      refine (CallsIn.inRound _ (callsIn_wide.2 HSET.out)).mono ?_
      rintro e w6 ⟨rfl, hv6, hk6⟩
      have hsz5 := HI.out.size
      have hz4 := HZ4.out
      have hl2 := HL2.out
      have hat : ∀ q, w.heap.size ≤ q → q < w4.heap.size + 2 → w6.heap[q]? = X.heap[q]? := fun q h1 h2 => (hk6.at (.inr ⟨h1, h2⟩) (Nat.lt_of_lt_of_le (by omega) HBX.out.size)).trans (HBX.out.block q (by omega))
      have hb0 : Boxed w6 w.heap.size 26 (.pointer (some ⟨vb, 0, none⟩)) := (hat _ (by omega) (by omega)).trans HI.out.vol
      have hb1 : Boxed w6 (w.heap.size + 1) 53 (.slice (some ⟨b, o, none⟩) R.length d) := (hat _ (by omega) (by omega)).trans HI.out.runs
      have hb2 : Boxed w6 (w.heap.size + 1 + 1) 37 (.int .i64 0) := (hat _ (by omega) (by omega)).trans HI.out.err
      have hb3 : Boxed w6 w2.heap.size 3 (.int .i64 (hd S (S.length - k))) := (hat _ (by omega) (by omega)).trans HI.out.next
      have hb4 : Boxed w6 (w2.heap.size + 1) 33 (.slice A S.length c) := (hat _ (by omega) (by omega)).trans HI.out.slots
      have hkk : Kq Q w w6 := (HI.out.kq.trans (Vol.kq_below HBX.out)).trans (hk6.sub (fun k h => .inl h))
      have hss : w4.heap.size + 2 ≤ w6.heap.size := Nat.le_trans hsz5 (Nat.le_trans HBX.out.size hk6.size)
      have HAT := Lib.hid hat
      have HV6 := Lib.hid hv6
      have HB0' := Lib.hid hb0
      have HB1' := Lib.hid hb1
      have HB2' := Lib.hid hb2
      have HB3' := Lib.hid hb3
      have HB4' := Lib.hid hb4
      have HKK := Lib.hid hkk
      have HSS := Lib.hid hss
      have cc3 := hb3.cell
      have ff3 := hb3.frozen
      clear c0 c1 c3 hd0 hd1 l0 l1 l3 hsz5 hz4 hl2 hat hv6 hk6 hb0 hb1 hb2 hb3 hb4 hkk hss HSET
      gi_wp2
      have ho := (Pm.Off.refl (fun q => q = w2.heap.size) w6).setCell (p := ⟨w2.heap.size, 0, none⟩) (fun _ => rfl) (.int .i64 (sj : Int))
      have hz4 := HZ4.out
      have hl2 := HL2.out
      have hvl := HV.out.lt
      have hkj := HJ.out
      refine ⟨⟨?_, ?_⟩, ⟨?_, box_off HB0'.out (by omega) ho, box_off HB1'.out (by omega) ho, box_off HB2'.out (by omega) ho, ?_, box_off HB4'.out (by omega) ho, kq_off HKK.out (by omega) ho, Nat.le_trans HSS.out ho.size⟩⟩
      · exact (Below.heap_setCell _ _ _ _ (by show w4.heap.size ≠ w2.heap.size; omega)).trans (HAT.out _ (by omega) (by omega))
      · exact (Below.heap_setCell _ _ _ _ (by show w4.heap.size + 1 ≠ w2.heap.size; omega)).trans (HAT.out _ (by omega) (by omega))
      · have hv := HV6.out
        rw [show st + 2 * (k + 1) = st + 2 * k + 2 by omega, show sn + (k + 1) = sn + k + 1 by omega]
        unfold wk
        rw [← hkj.1, pk_s hjl, ← HSJ.out]
        unfold pw
        rw [← HXYZ.out.1, ← HXYZ.out.2.1]
        exact vo_off hv (.inr ⟨by omega, by omega⟩) (by omega) ho
      · rw [show S.length - (k + 1) = j by omega, hd_some HWR.out hjl, ← HSJ.out]
        exact HB3'.out.set _
    case step =>
      rintro l a' X' i hsz ⟨u10, u23, u24, u25, u26, u27, u28, u29, u30, u31, u32, u33, u34, rfl, g0, g1, g2, g3, g4, g5, g6, g7, g8, g9, g10, g11, g12, g13, hX⟩ hi
      have hsz : l.size = 14 := hsz
      obtain ⟨hi1, hi2⟩ := List.mem_filter.1 hi
      have hi1 : i < 14 := by simpa using hi1
      have hli : l.getD i false = false := by
        simp only [Bool.and_eq_true, Bool.not_eq_true'] at hi2
        have := hi2.1
        simp only [Array.getD, show i < l.size by omega, dite_true] at this ⊢
        exact this
      by_cases h13 : i = 13
      · subst h13
        have hl : ∀ k, k < 13 → l.getD k false = true := by
          intro k hk
          simp [Region.binds, -Array.getD_eq_getD_getElem?] at hi2
          have : k = 0 ∨ k = 1 ∨ k = 2 ∨ k = 3 ∨ k = 4 ∨ k = 5 ∨ k = 6 ∨ k = 7 ∨ k = 8 ∨ k = 9 ∨ k = 10 ∨ k = 11 ∨ k = 12 := by omega
          rcases this with rfl | rfl | rfl | rfl | rfl | rfl | rfl | rfl | rfl | rfl | rfl | rfl | rfl <;> simp_all
        obtain rfl := g12 (hl 12 (by decide))
        obtain rfl := g11 (hl 11 (by decide))
        rw [if_neg (by rw [hli]; decide), if_pos (hl 12 (by decide))] at hX
        subst hX
        refine wpOpIn_step rfl (fun K' hK => ?_)
        go_simp
        have hil : 13 < l.size := by omega
        refine hK _ _ ⟨_, _, _, _, _, _, _, _, _, _, _, _, _, rfl, fun _ => rfl, fun _ => rfl, fun _ => rfl, fun _ => rfl, fun _ => rfl, fun _ => rfl, fun _ => rfl, fun _ => rfl, fun _ => rfl, fun _ => rfl, fun _ => rfl, fun _ => rfl, fun _ => rfl, fun _ i hi => ?_, ?_⟩
        · rw [get_set hil, if_neg (show ¬ 13 = i by omega)]
          exact hl i hi
        · rw [get_set hil 13, if_pos rfl, if_pos rfl]
      · have hi13 : i < 13 := by omega
        have hn13 : ¬ l.getD 13 false = true := fun h => by
          have := g13 h i hi13
          rw [hli] at this
          cases this
        rw [if_neg hn13] at hX
        have hXX : (X'.cell? ⟨w.heap.size + 1, 0, none⟩ = some (.slice (some ⟨b, o, none⟩) R.length d) ∧ X'.cell? ⟨w2.heap.size, 0, none⟩ = some (.int .i64 z)) ∧ (X'.cell? ⟨b, o + j * 2, none⟩ = some (.int .i64 (x : Int)) ∧ X'.cell? ⟨b, o + j * 2 + 1, none⟩ = some (.int .i64 (y : Int))) ∧ b < X'.heap.size := by
          have hbb2 := ((Below.refl X.heap.size X).alloc (Nat.le_refl _) (.cells #[.int .i64 0, .int .i64 0, .int .i64 0] 42)).trans (bel_drew _)
          rw [hX]
          split
          · exact ⟨⟨(hbb2.cell (p := ⟨w.heap.size + 1, 0, none⟩) l1).trans c1, (hbb2.cell (p := ⟨w2.heap.size, 0, none⟩) l3).trans c3⟩, ⟨(hbb2.cell (p := ⟨b, o + j * 2, none⟩) hbb).trans hd0, (hbb2.cell (p := ⟨b, o + j * 2 + 1, none⟩) hbb).trans hd1⟩, Nat.lt_of_lt_of_le hbb hbb2.size⟩
          · exact ⟨⟨c1, c3⟩, ⟨hd0, hd1⟩, hbb⟩
        obtain ⟨⟨k1, k3⟩, ⟨kd0, kd1⟩, kb⟩ := hXX
        have hil : i < l.size := by omega
        have hcs : i = 0 ∨ i = 1 ∨ i = 2 ∨ i = 3 ∨ i = 4 ∨ i = 5 ∨ i = 6 ∨ i = 7 ∨ i = 8 ∨ i = 9 ∨ i = 10 ∨ i = 11 ∨ i = 12 := by omega
        have HX := Lib.hid hX
        clear hX
        rcases hcs with rfl | rfl | rfl | rfl | rfl | rfl | rfl | rfl | rfl | rfl | rfl | rfl | rfl
        · simp [Region.binds, -Array.getD_eq_getD_getElem?] at hi2
          refine wpOpIn_step rfl (fun K' hK => ?_)
          go_simp
          refine hK _ _ ⟨_, _, _, _, _, _, _, _, _, _, _, _, _, rfl, ?_, ?_, ?_, ?_, ?_, ?_, ?_, ?_, ?_, ?_, ?_, ?_, ?_, ?_, ?_⟩
          · exact fun _ => rfl
          · rw [get_set hil, if_neg (by decide)]; assumption
          · rw [get_set hil, if_neg (by decide)]; assumption
          · rw [get_set hil, if_neg (by decide)]; assumption
          · rw [get_set hil, if_neg (by decide)]; assumption
          · rw [get_set hil, if_neg (by decide)]; assumption
          · rw [get_set hil, if_neg (by decide)]; assumption
          · rw [get_set hil, if_neg (by decide)]; assumption
          · rw [get_set hil, if_neg (by decide)]; assumption
          · rw [get_set hil, if_neg (by decide)]; assumption
          · rw [get_set hil, if_neg (by decide)]; assumption
          · rw [get_set hil, if_neg (by decide)]; assumption
          · rw [get_set hil, if_neg (by decide)]; assumption
          · rw [get_set hil, if_neg (by decide)]; exact fun h => absurd h hn13
          · have e13 := get_set hil 13
            have e12 := get_set hil 12
            rw [if_neg (show ¬ ((0 : Nat) = 13) by decide)] at e13
            rw [if_neg (show ¬ ((0 : Nat) = 12) by decide)] at e12
            rw [e13, e12, if_neg hn13]; exact HX.out
        · simp [Region.binds, -Array.getD_eq_getD_getElem?] at hi2
          refine wpOpIn_step rfl (fun K' hK => ?_)
          go_simp
          refine hK _ _ ⟨_, _, _, _, _, _, _, _, _, _, _, _, _, rfl, ?_, ?_, ?_, ?_, ?_, ?_, ?_, ?_, ?_, ?_, ?_, ?_, ?_, ?_, ?_⟩
          · rw [get_set hil, if_neg (by decide)]; assumption
          · exact fun _ => rfl
          · rw [get_set hil, if_neg (by decide)]; assumption
          · rw [get_set hil, if_neg (by decide)]; assumption
          · rw [get_set hil, if_neg (by decide)]; assumption
          · rw [get_set hil, if_neg (by decide)]; assumption
          · rw [get_set hil, if_neg (by decide)]; assumption
          · rw [get_set hil, if_neg (by decide)]; assumption
          · rw [get_set hil, if_neg (by decide)]; assumption
          · rw [get_set hil, if_neg (by decide)]; assumption
          · rw [get_set hil, if_neg (by decide)]; assumption
          · rw [get_set hil, if_neg (by decide)]; assumption
          · rw [get_set hil, if_neg (by decide)]; assumption
          · rw [get_set hil, if_neg (by decide)]; exact fun h => absurd h hn13
          · have e13 := get_set hil 13
            have e12 := get_set hil 12
            rw [if_neg (show ¬ ((1 : Nat) = 13) by decide)] at e13
            rw [if_neg (show ¬ ((1 : Nat) = 12) by decide)] at e12
            rw [e13, e12, if_neg hn13]; exact HX.out
        · simp [Region.binds, -Array.getD_eq_getD_getElem?] at hi2
          obtain rfl := g0 (by simp_all)
          obtain rfl := g1 (by simp_all)
          refine wpOpIn_step rfl (fun K' hK => ?_)
          go_simp
          refine hK _ _ ⟨_, _, _, _, _, _, _, _, _, _, _, _, _, rfl, ?_, ?_, ?_, ?_, ?_, ?_, ?_, ?_, ?_, ?_, ?_, ?_, ?_, ?_, ?_⟩
          · rw [get_set hil, if_neg (by decide)]; assumption
          · rw [get_set hil, if_neg (by decide)]; assumption
          · exact fun _ => rfl
          · rw [get_set hil, if_neg (by decide)]; assumption
          · rw [get_set hil, if_neg (by decide)]; assumption
          · rw [get_set hil, if_neg (by decide)]; assumption
          · rw [get_set hil, if_neg (by decide)]; assumption
          · rw [get_set hil, if_neg (by decide)]; assumption
          · rw [get_set hil, if_neg (by decide)]; assumption
          · rw [get_set hil, if_neg (by decide)]; assumption
          · rw [get_set hil, if_neg (by decide)]; assumption
          · rw [get_set hil, if_neg (by decide)]; assumption
          · rw [get_set hil, if_neg (by decide)]; assumption
          · rw [get_set hil, if_neg (by decide)]; exact fun h => absurd h hn13
          · have e13 := get_set hil 13
            have e12 := get_set hil 12
            rw [if_neg (show ¬ ((2 : Nat) = 13) by decide)] at e13
            rw [if_neg (show ¬ ((2 : Nat) = 12) by decide)] at e12
            rw [e13, e12, if_neg hn13]; exact HX.out
        · simp [Region.binds, -Array.getD_eq_getD_getElem?] at hi2
          obtain rfl := g2 (by simp_all)
          refine wpOpIn_step rfl (fun K' hK => ?_)
          go_simp
          refine hK _ _ ⟨_, _, _, _, _, _, _, _, _, _, _, _, _, rfl, ?_, ?_, ?_, ?_, ?_, ?_, ?_, ?_, ?_, ?_, ?_, ?_, ?_, ?_, ?_⟩
          · rw [get_set hil, if_neg (by decide)]; assumption
          · rw [get_set hil, if_neg (by decide)]; assumption
          · rw [get_set hil, if_neg (by decide)]; assumption
          · exact fun _ => rfl
          · rw [get_set hil, if_neg (by decide)]; assumption
          · rw [get_set hil, if_neg (by decide)]; assumption
          · rw [get_set hil, if_neg (by decide)]; assumption
          · rw [get_set hil, if_neg (by decide)]; assumption
          · rw [get_set hil, if_neg (by decide)]; assumption
          · rw [get_set hil, if_neg (by decide)]; assumption
          · rw [get_set hil, if_neg (by decide)]; assumption
          · rw [get_set hil, if_neg (by decide)]; assumption
          · rw [get_set hil, if_neg (by decide)]; assumption
          · rw [get_set hil, if_neg (by decide)]; exact fun h => absurd h hn13
          · have e13 := get_set hil 13
            have e12 := get_set hil 12
            rw [if_neg (show ¬ ((3 : Nat) = 13) by decide)] at e13
            rw [if_neg (show ¬ ((3 : Nat) = 12) by decide)] at e12
            rw [e13, e12, if_neg hn13]; exact HX.out
        · simp [Region.binds, -Array.getD_eq_getD_getElem?] at hi2
          obtain rfl := g3 (by simp_all)
          refine wpOpIn_step rfl (fun K' hK => ?_)
          go_simp
          refine hK _ _ ⟨_, _, _, _, _, _, _, _, _, _, _, _, _, rfl, ?_, ?_, ?_, ?_, ?_, ?_, ?_, ?_, ?_, ?_, ?_, ?_, ?_, ?_, ?_⟩
          · rw [get_set hil, if_neg (by decide)]; assumption
          · rw [get_set hil, if_neg (by decide)]; assumption
          · rw [get_set hil, if_neg (by decide)]; assumption
          · rw [get_set hil, if_neg (by decide)]; assumption
          · exact fun _ => rfl
          · rw [get_set hil, if_neg (by decide)]; assumption
          · rw [get_set hil, if_neg (by decide)]; assumption
          · rw [get_set hil, if_neg (by decide)]; assumption
          · rw [get_set hil, if_neg (by decide)]; assumption
          · rw [get_set hil, if_neg (by decide)]; assumption
          · rw [get_set hil, if_neg (by decide)]; assumption
          · rw [get_set hil, if_neg (by decide)]; assumption
          · rw [get_set hil, if_neg (by decide)]; assumption
          · rw [get_set hil, if_neg (by decide)]; exact fun h => absurd h hn13
          · have e13 := get_set hil 13
            have e12 := get_set hil 12
            rw [if_neg (show ¬ ((4 : Nat) = 13) by decide)] at e13
            rw [if_neg (show ¬ ((4 : Nat) = 12) by decide)] at e12
            rw [e13, e12, if_neg hn13]; exact HX.out
        · simp [Region.binds, -Array.getD_eq_getD_getElem?] at hi2
          refine wpOpIn_step rfl (fun K' hK => ?_)
          go_simp
          refine hK _ _ ⟨_, _, _, _, _, _, _, _, _, _, _, _, _, rfl, ?_, ?_, ?_, ?_, ?_, ?_, ?_, ?_, ?_, ?_, ?_, ?_, ?_, ?_, ?_⟩
          · rw [get_set hil, if_neg (by decide)]; assumption
          · rw [get_set hil, if_neg (by decide)]; assumption
          · rw [get_set hil, if_neg (by decide)]; assumption
          · rw [get_set hil, if_neg (by decide)]; assumption
          · rw [get_set hil, if_neg (by decide)]; assumption
          · exact fun _ => rfl
          · rw [get_set hil, if_neg (by decide)]; assumption
          · rw [get_set hil, if_neg (by decide)]; assumption
          · rw [get_set hil, if_neg (by decide)]; assumption
          · rw [get_set hil, if_neg (by decide)]; assumption
          · rw [get_set hil, if_neg (by decide)]; assumption
          · rw [get_set hil, if_neg (by decide)]; assumption
          · rw [get_set hil, if_neg (by decide)]; assumption
          · rw [get_set hil, if_neg (by decide)]; exact fun h => absurd h hn13
          · have e13 := get_set hil 13
            have e12 := get_set hil 12
            rw [if_neg (show ¬ ((5 : Nat) = 13) by decide)] at e13
            rw [if_neg (show ¬ ((5 : Nat) = 12) by decide)] at e12
            rw [e13, e12, if_neg hn13]; exact HX.out
        · simp [Region.binds, -Array.getD_eq_getD_getElem?] at hi2
          refine wpOpIn_step rfl (fun K' hK => ?_)
          go_simp
          refine hK _ _ ⟨_, _, _, _, _, _, _, _, _, _, _, _, _, rfl, ?_, ?_, ?_, ?_, ?_, ?_, ?_, ?_, ?_, ?_, ?_, ?_, ?_, ?_, ?_⟩
          · rw [get_set hil, if_neg (by decide)]; assumption
          · rw [get_set hil, if_neg (by decide)]; assumption
          · rw [get_set hil, if_neg (by decide)]; assumption
          · rw [get_set hil, if_neg (by decide)]; assumption
          · rw [get_set hil, if_neg (by decide)]; assumption
          · rw [get_set hil, if_neg (by decide)]; assumption
          · exact fun _ => rfl
          · rw [get_set hil, if_neg (by decide)]; assumption
          · rw [get_set hil, if_neg (by decide)]; assumption
          · rw [get_set hil, if_neg (by decide)]; assumption
          · rw [get_set hil, if_neg (by decide)]; assumption
          · rw [get_set hil, if_neg (by decide)]; assumption
          · rw [get_set hil, if_neg (by decide)]; assumption
          · rw [get_set hil, if_neg (by decide)]; exact fun h => absurd h hn13
          · have e13 := get_set hil 13
            have e12 := get_set hil 12
            rw [if_neg (show ¬ ((6 : Nat) = 13) by decide)] at e13
            rw [if_neg (show ¬ ((6 : Nat) = 12) by decide)] at e12
            rw [e13, e12, if_neg hn13]; exact HX.out
        · simp [Region.binds, -Array.getD_eq_getD_getElem?] at hi2
          obtain rfl := g5 (by simp_all)
          obtain rfl := g6 (by simp_all)
          refine wpOpIn_step rfl (fun K' hK => ?_)
          go_simp
          refine hK _ _ ⟨_, _, _, _, _, _, _, _, _, _, _, _, _, rfl, ?_, ?_, ?_, ?_, ?_, ?_, ?_, ?_, ?_, ?_, ?_, ?_, ?_, ?_, ?_⟩
          · rw [get_set hil, if_neg (by decide)]; assumption
          · rw [get_set hil, if_neg (by decide)]; assumption
          · rw [get_set hil, if_neg (by decide)]; assumption
          · rw [get_set hil, if_neg (by decide)]; assumption
          · rw [get_set hil, if_neg (by decide)]; assumption
          · rw [get_set hil, if_neg (by decide)]; assumption
          · rw [get_set hil, if_neg (by decide)]; assumption
          · exact fun _ => rfl
          · rw [get_set hil, if_neg (by decide)]; assumption
          · rw [get_set hil, if_neg (by decide)]; assumption
          · rw [get_set hil, if_neg (by decide)]; assumption
          · rw [get_set hil, if_neg (by decide)]; assumption
          · rw [get_set hil, if_neg (by decide)]; assumption
          · rw [get_set hil, if_neg (by decide)]; exact fun h => absurd h hn13
          · have e13 := get_set hil 13
            have e12 := get_set hil 12
            rw [if_neg (show ¬ ((7 : Nat) = 13) by decide)] at e13
            rw [if_neg (show ¬ ((7 : Nat) = 12) by decide)] at e12
            rw [e13, e12, if_neg hn13]; exact HX.out
        · simp [Region.binds, -Array.getD_eq_getD_getElem?] at hi2
          obtain rfl := g7 (by simp_all)
          refine wpOpIn_step rfl (fun K' hK => ?_)
          go_simp
          refine hK _ _ ⟨_, _, _, _, _, _, _, _, _, _, _, _, _, rfl, ?_, ?_, ?_, ?_, ?_, ?_, ?_, ?_, ?_, ?_, ?_, ?_, ?_, ?_, ?_⟩
          · rw [get_set hil, if_neg (by decide)]; assumption
          · rw [get_set hil, if_neg (by decide)]; assumption
          · rw [get_set hil, if_neg (by decide)]; assumption
          · rw [get_set hil, if_neg (by decide)]; assumption
          · rw [get_set hil, if_neg (by decide)]; assumption
          · rw [get_set hil, if_neg (by decide)]; assumption
          · rw [get_set hil, if_neg (by decide)]; assumption
          · rw [get_set hil, if_neg (by decide)]; assumption
          · exact fun _ => rfl
          · rw [get_set hil, if_neg (by decide)]; assumption
          · rw [get_set hil, if_neg (by decide)]; assumption
          · rw [get_set hil, if_neg (by decide)]; assumption
          · rw [get_set hil, if_neg (by decide)]; assumption
          · rw [get_set hil, if_neg (by decide)]; exact fun h => absurd h hn13
          · have e13 := get_set hil 13
            have e12 := get_set hil 12
            rw [if_neg (show ¬ ((8 : Nat) = 13) by decide)] at e13
            rw [if_neg (show ¬ ((8 : Nat) = 12) by decide)] at e12
            rw [e13, e12, if_neg hn13]; exact HX.out
        · simp [Region.binds, -Array.getD_eq_getD_getElem?] at hi2
          obtain rfl := g8 (by simp_all)
          refine wpOpIn_step rfl (fun K' hK => ?_)
          go_simp
          refine hK _ _ ⟨_, _, _, _, _, _, _, _, _, _, _, _, _, rfl, ?_, ?_, ?_, ?_, ?_, ?_, ?_, ?_, ?_, ?_, ?_, ?_, ?_, ?_, ?_⟩
          · rw [get_set hil, if_neg (by decide)]; assumption
          · rw [get_set hil, if_neg (by decide)]; assumption
          · rw [get_set hil, if_neg (by decide)]; assumption
          · rw [get_set hil, if_neg (by decide)]; assumption
          · rw [get_set hil, if_neg (by decide)]; assumption
          · rw [get_set hil, if_neg (by decide)]; assumption
          · rw [get_set hil, if_neg (by decide)]; assumption
          · rw [get_set hil, if_neg (by decide)]; assumption
          · rw [get_set hil, if_neg (by decide)]; assumption
          · exact fun _ => rfl
          · rw [get_set hil, if_neg (by decide)]; assumption
          · rw [get_set hil, if_neg (by decide)]; assumption
          · rw [get_set hil, if_neg (by decide)]; assumption
          · rw [get_set hil, if_neg (by decide)]; exact fun h => absurd h hn13
          · have e13 := get_set hil 13
            have e12 := get_set hil 12
            rw [if_neg (show ¬ ((9 : Nat) = 13) by decide)] at e13
            rw [if_neg (show ¬ ((9 : Nat) = 12) by decide)] at e12
            rw [e13, e12, if_neg hn13]; exact HX.out
        · simp [Region.binds, -Array.getD_eq_getD_getElem?] at hi2
          refine wpOpIn_step rfl (fun K' hK => ?_)
          go_simp
          refine hK _ _ ⟨_, _, _, _, _, _, _, _, _, _, _, _, _, rfl, ?_, ?_, ?_, ?_, ?_, ?_, ?_, ?_, ?_, ?_, ?_, ?_, ?_, ?_, ?_⟩
          · rw [get_set hil, if_neg (by decide)]; assumption
          · rw [get_set hil, if_neg (by decide)]; assumption
          · rw [get_set hil, if_neg (by decide)]; assumption
          · rw [get_set hil, if_neg (by decide)]; assumption
          · rw [get_set hil, if_neg (by decide)]; assumption
          · rw [get_set hil, if_neg (by decide)]; assumption
          · rw [get_set hil, if_neg (by decide)]; assumption
          · rw [get_set hil, if_neg (by decide)]; assumption
          · rw [get_set hil, if_neg (by decide)]; assumption
          · rw [get_set hil, if_neg (by decide)]; assumption
          · exact fun _ => rfl
          · rw [get_set hil, if_neg (by decide)]; assumption
          · rw [get_set hil, if_neg (by decide)]; assumption
          · rw [get_set hil, if_neg (by decide)]; exact fun h => absurd h hn13
          · have e13 := get_set hil 13
            have e12 := get_set hil 12
            rw [if_neg (show ¬ ((10 : Nat) = 13) by decide)] at e13
            rw [if_neg (show ¬ ((10 : Nat) = 12) by decide)] at e12
            rw [e13, e12, if_neg hn13]; exact HX.out
        · simp [Region.binds, -Array.getD_eq_getD_getElem?] at hi2
          obtain rfl := g4 (by simp_all)
          obtain rfl := g9 (by simp_all)
          obtain rfl := g10 (by simp_all)
          refine wpOpIn_step rfl (fun K' hK => ?_)
          go_simp
          refine hK _ _ ⟨_, _, _, _, _, _, _, _, _, _, _, _, _, rfl, ?_, ?_, ?_, ?_, ?_, ?_, ?_, ?_, ?_, ?_, ?_, ?_, ?_, ?_, ?_⟩
          · rw [get_set hil, if_neg (by decide)]; assumption
          · rw [get_set hil, if_neg (by decide)]; assumption
          · rw [get_set hil, if_neg (by decide)]; assumption
          · rw [get_set hil, if_neg (by decide)]; assumption
          · rw [get_set hil, if_neg (by decide)]; assumption
          · rw [get_set hil, if_neg (by decide)]; assumption
          · rw [get_set hil, if_neg (by decide)]; assumption
          · rw [get_set hil, if_neg (by decide)]; assumption
          · rw [get_set hil, if_neg (by decide)]; assumption
          · rw [get_set hil, if_neg (by decide)]; assumption
          · rw [get_set hil, if_neg (by decide)]; assumption
          · exact fun _ => rfl
          · rw [get_set hil, if_neg (by decide)]; assumption
          · rw [get_set hil, if_neg (by decide)]; exact fun h => absurd h hn13
          · have e13 := get_set hil 13
            have e12 := get_set hil 12
            rw [if_neg (show ¬ ((11 : Nat) = 13) by decide)] at e13
            rw [if_neg (show ¬ ((11 : Nat) = 12) by decide)] at e12
            rw [e13, e12, if_neg hn13]; exact HX.out
        · simp [Region.binds, -Array.getD_eq_getD_getElem?] at hi2
          have hX := HX.out
          rw [if_neg (by rw [hli]; decide)] at hX
          subst hX
          refine wpOpIn_step rfl (fun K' hK => ?_)
          go_simp
          refine hK _ _ ⟨_, _, _, _, _, _, _, _, _, _, _, _, _, rfl, ?_, ?_, ?_, ?_, ?_, ?_, ?_, ?_, ?_, ?_, ?_, ?_, ?_, ?_, ?_⟩
          · rw [get_set hil, if_neg (by decide)]; assumption
          · rw [get_set hil, if_neg (by decide)]; assumption
          · rw [get_set hil, if_neg (by decide)]; assumption
          · rw [get_set hil, if_neg (by decide)]; assumption
          · rw [get_set hil, if_neg (by decide)]; assumption
          · rw [get_set hil, if_neg (by decide)]; assumption
          · rw [get_set hil, if_neg (by decide)]; assumption
          · rw [get_set hil, if_neg (by decide)]; assumption
          · rw [get_set hil, if_neg (by decide)]; assumption
          · rw [get_set hil, if_neg (by decide)]; assumption
          · rw [get_set hil, if_neg (by decide)]; assumption
          · rw [get_set hil, if_neg (by decide)]; assumption
          · exact fun _ => rfl
          · rw [get_set hil, if_neg (by decide)]; exact fun h => absurd h hn13
          · have e13 := get_set hil 13
            have e12 := get_set hil 12
            rw [if_neg (show ¬ ((12 : Nat) = 13) by decide)] at e13
            rw [if_pos rfl] at e12
            rw [e13, e12, if_neg hn13, if_pos rfl]
end
end Chn
end Go.Proofs.YtleehhpodgbomaaGreatDoor
/- A chain as it lies in memory: slots' numbers, parts; rows of parts of the call's own. -/
namespace Go.Proofs.YtleehhpodgbomaaGreatDoor
open Go.RowKit Go.MapKept
namespace Chn

/-- parts as they lie -/
structure Prt (w : World) (A : Option Addr) (l : List Pt) : Prop where
  at' : ∀ j (h : j < l.length), ∃ b o, A = some ⟨b, o, none⟩ ∧ b < w.heap.size ∧ w.cell? ⟨b, o + j * 3, none⟩ = some (.int .i64 (l[j].x : Int)) ∧ w.cell? ⟨b, o + j * 3 + 1, none⟩ = some (.int .i64 (l[j].c : Int)) ∧ w.cell? ⟨b, o + j * 3 + 2, none⟩ = some (.int .i64 (Slo.nx l[j].q))
theorem Prt.keep {w w' : World} {A : Option Addr} {l : List Pt} (h : Prt w A l) (hb : Below w.heap.size w w') : Prt w' A l :=
  ⟨fun j hj => by
    obtain ⟨b, o, e, hlt, hc, hd, he⟩ := h.at' j hj
    exact ⟨b, o, e, Nat.lt_of_lt_of_le hlt hb.size, (hb.cell (p := ⟨b, o + j * 3, none⟩) hlt).trans hc, (hb.cell (p := ⟨b, o + j * 3 + 1, none⟩) hlt).trans hd, (hb.cell (p := ⟨b, o + j * 3 + 2, none⟩) hlt).trans he⟩⟩
/-- parts' cells -/
def pcells (l : List Pt) : List Value := l.flatMap fun p => [.int .i64 (p.x : Int), .int .i64 (p.c : Int), .int .i64 (Slo.nx p.q)]
theorem pcells_snoc (l : List Pt) (p : Pt) : pcells (l ++ [p]) = pcells l ++ [.int .i64 (p.x : Int), .int .i64 (p.c : Int), .int .i64 (Slo.nx p.q)] := by simp [pcells]
theorem pcells_len (l : List Pt) : (pcells l).length = l.length * 3 := by
  induction l with
  | nil => rfl
  | cons p l ih =>
    have e : pcells (p :: l) = [.int .i64 (p.x : Int), .int .i64 (p.c : Int), .int .i64 (Slo.nx p.q)] ++ pcells l := rfl
    rw [e, List.length_append, ih]
    simp; omega
theorem pcells_get {l : List Pt} : ∀ {j : Nat} (h : j < l.length), (pcells l)[j * 3]? = some (.int .i64 (l[j].x : Int)) ∧ (pcells l)[j * 3 + 1]? = some (.int .i64 (l[j].c : Int)) ∧ (pcells l)[j * 3 + 2]? = some (.int .i64 (Slo.nx l[j].q)) := by
  induction l with
  | nil => intro j h; simp at h
  | cons p l ih =>
    intro j h
    cases j with
    | zero => exact ⟨rfl, rfl, rfl⟩
    | succ j =>
      have := ih (j := j) (by simpa using h)
      have e : (j + 1) * 3 = j * 3 + 1 + 1 + 1 := by omega
      rw [e]
      simpa [pcells] using this
theorem own_prt {W : World} {B n c : Nat} {t : TypeId} {G : Option Addr} {l : List Pt} (h : W.ownsRow B t 3 (.slice G n c) n (pcells l)) : Prt W G l ∧ l.length = n := by
  have hl : l.length = n := by
    have := h.1
    rw [pcells_len] at this
    omega
  refine ⟨⟨fun j hj => ?_⟩, hl⟩
  obtain ⟨f0, f1, f2⟩ := pcells_get hj
  rcases h.2 with ⟨e, h0⟩ | ⟨g, cap, cur, e, hB, hh, _, _, _, ht⟩
  · omega
  · injection e with e
    subst e
    have key : ∀ i, i < n * 3 → W.cell? ⟨g, 0 + i, none⟩ = (pcells l)[i]? := fun i hi => by
      have := congrArg (·[i]?) ht
      simp only [List.getElem?_take, hi, if_true] at this
      rw [← this]
      simp [World.cell?, hh]
    have k0 := key (j * 3) (by omega)
    have k1 := key (j * 3 + 1) (by omega)
    have k2 := key (j * 3 + 2) (by omega)
    exact ⟨g, 0, rfl, Pm.lt_of_some hh, k0.trans f0, by rw [Nat.add_assoc]; exact k1.trans f1, by rw [Nat.add_assoc]; exact k2.trans f2⟩
theorem row_slice3 {B n : Nat} {W : World} {e : TypeId} {v : Value} {xs : List Value} (h : W.ownsRow B e 3 v n xs) : ∃ G c, v = .slice G n c := by
  rcases h.2 with ⟨e, h0⟩ | ⟨g, cap, cur, e, _⟩
  · exact ⟨none, 0, by rw [e, h0]⟩
  · exact ⟨_, _, e⟩
theorem row_base_lt3 {w : World} {B s : Nat} {e : TypeId} {n : Nat} {v : Value} {xs : List Value} (h : w.ownsRow B e s v n xs) {g : Nat} (hg : v.ownBlock = some g) : B ≤ g := (World.ownsRow.lt h g hg).1
theorem own_keep3 {w w' : World} {B n s : Nat} {t : TypeId} {v : Value} {xs : List Value} (h : w.ownsRow B t s v n xs) (hb : Below w.heap.size w w') : w'.ownsRow B t s v n xs := by
  have hN : ∀ g, v.ownBlock = some g → g < w.heap.size := fun g hg => (World.ownsRow.lt h g hg).2
  rcases h with ⟨h1, h2⟩
  refine ⟨h1, ?_⟩
  rcases h2 with h0 | ⟨g, cap, cur, e, hB, hh, hr⟩
  · exact .inl h0
  · exact .inr ⟨g, cap, cur, e, hB, (hb.block g (hN g (by rw [e]; rfl))).trans hh, hr⟩
/-- slots' numbers -/
def slots (l : List Pt) : List Int := l.map fun p => (p.s : Int)
theorem slots_snoc (l : List Pt) (p : Pt) : slots (l ++ [p]) = slots l ++ [(p.s : Int)] := by simp [slots]
theorem slots_len (l : List Pt) : (slots l).length = l.length := by simp [slots]
end Chn
end Go.Proofs.YtleehhpodgbomaaGreatDoor
