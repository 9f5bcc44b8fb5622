/- Texts laid together: ClmMath, ChnRuns, ClmRep, ClmGive, VolInode, ClmTake. -/
import Derived.Test.YtilolepbfmcbgaaGreatDoorKr7
import Derived.Test.YtilolepbfmcbgaaGreatDoorKa1
import Derived.Test.YtilolepbfmcbgaaGreatDoorKr6
import Derived.Test.YtilolepbfmcbgaaGreatDoorKa2
import Derived.Test.YtilolepbfmcbgaaGreatDoorKr5
import Derived.Test.YtilolepbfmcbgaaGreatDoorKr1
import Derived.Test.YtilolepbfmcbgaaGreatDoorKa3
import Derived.Test.YtilolepbfmcbgaaGreatDoorKr2
import Derived.Test.YtilolepbfmcbgaaGreatDoorKr3
import Derived.Test.YtilolepbfmcbgaaGreatDoorKr4
/- Claims, of no program: inodes one behind the other, each with its chain; what is taken is told apart. -/
namespace Go.Proofs.YtilolepbfmcbgaaGreatDoor
namespace Clm
open Chn (Pt pat rd rd_iff path_mem path_nodup path_len Mays tot blk blk_len)

/-- an inode and its chain -/
structure Cl where
  k : Nat
  p : Nat
  z : Nat
  l : List Pt

/-- how many blocks bytes take -/
def need (s z : Nat) : Nat := (z + s - 1) / s
theorem need_iff {s z c : Nat} (hs : 0 < s) : c = need s z ↔ z ≤ c * s ∧ (∀ d, d < c → d * s < z) := by
  unfold need
  constructor
  · rintro rfl
    have h1 := Nat.div_add_mod (z + s - 1) s
    have h2 := Nat.mod_lt (z + s - 1) hs
    refine ⟨?_, fun d hd => ?_⟩
    · rw [Nat.mul_comm]; omega
    · have h3 : (d + 1) * s ≤ (z + s - 1) / s * s := Nat.mul_le_mul_right s (by omega)
      rw [Nat.add_mul, Nat.mul_comm ((z + s - 1) / s)] at h3
      omega
  · rintro ⟨h1, h2⟩
    symm
    cases c with
    | zero =>
      refine Nat.div_eq_of_lt ?_
      omega
    | succ d =>
      have h3 := h2 d (by omega)
      rw [Nat.add_mul] at h1
      refine Nat.div_eq_of_lt_le ?_ ?_
      · rw [Nat.add_mul]; omega
      · rw [show d + 1 + 1 = d + 2 from rfl, Nat.add_mul]; omega

/-- slots and blocks that are some chain's -/
def sls (l : List Pt) : List Nat := l.map Pt.s
def sl (L : List Cl) : List Nat := L.flatMap fun c => sls c.l
def bl (L : List Cl) : List Nat := L.flatMap fun c => blk c.l
theorem sl_snoc (L : List Cl) (c : Cl) : sl (L ++ [c]) = sl L ++ sls c.l := by simp [sl]
theorem bl_snoc (L : List Cl) (c : Cl) : bl (L ++ [c]) = bl L ++ blk c.l := by simp [bl]
/-- one inode's -/
def one (f : Nat → Option (Nat × Nat × Nat)) (n s : Nat) : Option (Nat × Nat × Nat) → Option Cl
  | none => none
  | some (k, p, z) => match rd (pat f n) n ((p : Int) - 1) with
    | none => none
    | some l => if tot l = need s z then some ⟨k, p, z, l⟩ else none
/-- and one more -/
def add (L : List Cl) : Option Cl → Option (List Cl)
  | none => none
  | some c => if (sl L ++ sls c.l).Nodup ∧ (bl L ++ blk c.l).Nodup then some (L ++ [c]) else none
/-- the first i ones -/
def scn (g : Nat → Option Cl) : Nat → Option (List Cl)
  | 0 => some []
  | i + 1 => (scn g i).bind fun L => add L (g i)
theorem scn_none {g : Nat → Option Cl} {i : Nat} (h : scn g i = none) : ∀ m, i ≤ m → scn g m = none
  | 0, hm => by
    obtain rfl : i = 0 := by omega
    exact h
  | m + 1, hm => by
    by_cases e : i = m + 1
    · rw [← e]; exact h
    · rw [scn, scn_none h m (by omega)]; rfl
theorem scn_stop {g : Nat → Option Cl} {i m : Nat} {L : List Cl} (h : scn g i = some L) (ha : add L (g i) = none) (hm : i < m) : scn g m = none :=
  scn_none (i := i + 1) (by rw [scn, h]; exact ha) m hm
theorem scn_next {g : Nat → Option Cl} {i : Nat} {L : List Cl} {c : Cl} (h : scn g i = some L) (hg : g i = some c) (h1 : (sl L ++ sls c.l).Nodup) (h2 : (bl L ++ blk c.l).Nodup) : scn g (i + 1) = some (L ++ [c]) := by
  rw [scn, h]
  show add L (g i) = _
  rw [hg]
  exact if_pos ⟨h1, h2⟩
theorem add_not {L : List Cl} {c : Cl} (h : ¬ ((sl L ++ sls c.l).Nodup ∧ (bl L ++ blk c.l).Nodup)) : add L (some c) = none := if_neg h
theorem one_none {f : Nat → Option (Nat × Nat × Nat)} {n s k p z : Nat} (h : rd (pat f n) n ((p : Int) - 1) = none) : one f n s (some (k, p, z)) = none := by
  unfold one
  simp only [h]
theorem one_not {f : Nat → Option (Nat × Nat × Nat)} {n s k p z : Nat} {l : List Pt} (h : rd (pat f n) n ((p : Int) - 1) = some l) (ht : tot l ≠ need s z) : one f n s (some (k, p, z)) = none := by
  unfold one
  simp only [h]
  exact if_neg ht
theorem one_yes {f : Nat → Option (Nat × Nat × Nat)} {n s k p z : Nat} {l : List Pt} (h : rd (pat f n) n ((p : Int) - 1) = some l) (ht : tot l = need s z) : one f n s (some (k, p, z)) = some ⟨k, p, z, l⟩ := by
  unfold one
  simp only [h]
  exact if_pos ht

/-- a claim that is all right: of n blocks -/
structure Ok (f : Nat → Option (Nat × Nat × Nat)) (n s : Nat) (c : Cl) : Prop where
  may : Ino.may (c.k : Int) ((c.p : Int) - 1) (c.z : Int) = true
  rd : rd (pat f n) n ((c.p : Int) - 1) = some c.l
  tot : tot c.l = need s c.z
theorem one_ok {f : Nat → Option (Nat × Nat × Nat)} {n s : Nat} {d : Option (Nat × Nat × Nat)} {c : Cl} (h : one f n s d = some c) (hd : ∀ k p z, d = some (k, p, z) → Ino.may (k : Int) ((p : Int) - 1) (z : Int) = true) : Ok f n s c := by
  cases d with
  | none => cases h
  | some t =>
    obtain ⟨k, p, z⟩ := t
    unfold one at h
    simp only at h
    split at h
    · cases h
    · rename_i l hl
      split at h
      · injection h with h
        subst h
        exact ⟨hd _ _ _ rfl, hl, by assumption⟩
      · cases h

/-- claims that are all right -/
structure Oks (f : Nat → Option (Nat × Nat × Nat)) (n s : Nat) (L : List Cl) : Prop where
  each : ∀ c ∈ L, Ok f n s c
  sl : (sl L).Nodup
  bl : (bl L).Nodup
theorem oks_nil (f : Nat → Option (Nat × Nat × Nat)) (n s : Nat) : Oks f n s [] := ⟨by simp, by simp [Clm.sl], by simp [Clm.bl]⟩
theorem Oks.snoc {f : Nat → Option (Nat × Nat × Nat)} {n s : Nat} {L : List Cl} {c : Cl} (h : Oks f n s L) (hc : Ok f n s c) (h1 : (Clm.sl L ++ sls c.l).Nodup) (h2 : (Clm.bl L ++ blk c.l).Nodup) : Oks f n s (L ++ [c]) :=
  ⟨fun x hx => by
    rcases List.mem_append.1 hx with hx | hx
    · exact h.each x hx
    · obtain rfl : x = c := by simpa using hx
      exact hc, by rw [sl_snoc]; exact h1, by rw [bl_snoc]; exact h2⟩
theorem scn_oks {f : Nat → Option (Nat × Nat × Nat)} {n s : Nat} {g : Nat → Option Cl} (hg : ∀ i c, g i = some c → Ok f n s c) : ∀ {i : Nat} {L : List Cl}, scn g i = some L → Oks f n s L ∧ L.length = i
  | 0, L, h => by
    injection h with h
    subst h
    exact ⟨oks_nil f n s, rfl⟩
  | i + 1, L, h => by
    rw [scn] at h
    cases e : scn g i with
    | none => rw [e] at h; cases h
    | some L0 =>
      rw [e] at h
      obtain ⟨h1, h2⟩ := scn_oks hg e
      simp only [Option.bind_some] at h
      cases e2 : g i with
      | none => rw [e2] at h; cases h
      | some c =>
        rw [e2, add] at h
        split at h
        · rename_i hn
          injection h with h
          subst h
          exact ⟨h1.snoc (hg i c e2) hn.1 hn.2, by simp [h2]⟩
        · cases h
section
variable {f : Nat → Option (Nat × Nat × Nat)} (hf : ∀ i x c q, f i = some (x, c, q) → Slo.may (x : Int) (c : Int) (Slo.nx q) = true) {n s : Nat}
theorem Ok.few {c : Cl} (h : Ok f n s c) : c.l.length ≤ n := (rd_iff.1 h.rd).2
include hf in
theorem Ok.mays {c : Cl} (h : Ok f n s c) : Mays c.l := fun p hp => hf _ _ _ _ (path_mem (rd_iff.1 h.rd).1 p hp).2.1
theorem Ok.sls_lt {c : Cl} (h : Ok f n s c) : ∀ x ∈ sls c.l, x < n := fun x hx => by
  obtain ⟨p, hp, rfl⟩ := List.mem_map.1 hx
  exact (path_mem (rd_iff.1 h.rd).1 p hp).1
theorem blk_mem {l : List Pt} {b : Nat} (h : b ∈ blk l) : ∃ p ∈ l, p.x ≤ b ∧ b < p.x + p.c := by
  obtain ⟨p, hp, hb⟩ := List.mem_flatMap.1 h
  obtain ⟨j, hj, rfl⟩ := List.mem_map.1 hb
  have := List.mem_range.1 hj
  exact ⟨p, hp, by omega, by omega⟩
theorem Ok.blk_lt {c : Cl} (h : Ok f n s c) : ∀ x ∈ blk c.l, x < n := fun x hx => by
  obtain ⟨p, hp, h1, h2⟩ := blk_mem hx
  have := (path_mem (rd_iff.1 h.rd).1 p hp).2.2
  omega
/-- a free one has no slots -/
theorem Ok.free {c : Cl} (h : Ok f n s c) (hk : c.k = 0) : c.p = 0 ∧ c.z = 0 ∧ c.l = [] := by
  have h1 := h.may
  rw [hk] at h1
  obtain ⟨h2, h3⟩ := Ino.may_free h1
  have h4 := h.rd
  rw [h2] at h4
  have h5 := (rd_iff.1 h4).1
  refine ⟨h2, h3, ?_⟩
  cases e : c.l with
  | nil => rfl
  | cons p l => rw [e] at h5; exact absurd rfl h5.1
include hf in
/-- each slot has a block at least -/
theorem Ok.slots_le {c : Cl} (h : Ok f n s c) : (sls c.l).length ≤ (blk c.l).length := by
  have hm := h.mays hf
  rw [blk_len]
  unfold sls
  rw [List.length_map]
  revert hm
  generalize c.l = l
  intro hm
  induction l with
  | nil => exact Nat.zero_le _
  | cons p l ih =>
    have h1 := ih (fun q hq => hm q (List.mem_cons_of_mem _ hq))
    have h2 := Slo.may_lt (hm p (by simp))
    unfold Chn.tot at h1 ⊢
    simp only [List.map_cons, List.sum_cons, List.length_cons]
    omega
end
section
variable {f : Nat → Option (Nat × Nat × Nat)} (hf : ∀ i x c q, f i = some (x, c, q) → Slo.may (x : Int) (c : Int) (Slo.nx q) = true) {n s : Nat} {L : List Cl}
theorem Oks.sl_lt (h : Oks f n s L) : ∀ x ∈ Clm.sl L, x < n := fun x hx => by
  obtain ⟨c, hc, hx⟩ := List.mem_flatMap.1 hx
  exact (h.each c hc).sls_lt x hx
theorem Oks.bl_lt (h : Oks f n s L) : ∀ x ∈ Clm.bl L, x < n := fun x hx => by
  obtain ⟨c, hc, hx⟩ := List.mem_flatMap.1 hx
  exact (h.each c hc).blk_lt x hx
include hf in
theorem Oks.slots_le (h : Oks f n s L) : (Clm.sl L).length ≤ (Clm.bl L).length := by
  have : ∀ L : List Cl, (∀ c ∈ L, Ok f n s c) → (Clm.sl L).length ≤ (Clm.bl L).length := by
    intro L
    induction L with
    | nil => intro _; exact Nat.le_refl _
    | cons c L ih =>
      intro h
      have h1 := ih (fun q hq => h q (List.mem_cons_of_mem _ hq))
      have h2 := (h c (by simp)).slots_le hf
      unfold Clm.sl Clm.bl at h1 ⊢
      simp only [List.flatMap_cons, List.length_append]
      omega
  exact this L h.each
end

/-- what is in a list, as a map -/
def ins (X : List Nat) (b : Nat) : Bool := decide (b ∈ X)
theorem ins_nil : ins [] = fun _ => false := by funext b; simp [ins]
theorem ins_upd (X : List Nat) (y : Nat) : Bm.upd (ins X) y true = ins (X ++ [y]) := by
  funext b
  unfold Bm.upd ins
  by_cases h : b = y
  · rw [if_pos h]; simp [h]
  · rw [if_neg h]; simp [h]
theorem ins_far {X : List Nat} {n : Nat} (h : ∀ x ∈ X, x < n) : ∀ b, n ≤ b → ins X b = false := fun b hb => by
  unfold ins
  exact decide_eq_false fun hx => by have := h b hx; omega
/-- put: how many there were that weren't in it -/
theorem put_fold {n : Nat} : ∀ (Y : List Nat) (X : List Nat) (c : Nat), X.Nodup → (∀ y ∈ Y, y < n) →
    ((X ++ Y).Nodup → ((Y.map Int.ofNat).foldl (Bm.tnp n true) (ins X, c)) = (ins (X ++ Y), c + Y.length)) ∧
    (¬ (X ++ Y).Nodup → ((Y.map Int.ofNat).foldl (Bm.tnp n true) (ins X, c)).2 < c + Y.length)
  | [], X, c, hX, _ => ⟨fun _ => by simp, fun h => absurd (by simpa using hX) h⟩
  | y :: Y, X, c, hX, hY => by
    have hy : y < n := hY y (by simp)
    have hY' : ∀ z ∈ Y, z < n := fun z hz => hY z (List.mem_cons_of_mem _ hz)
    simp only [List.map_cons, List.foldl_cons]
    have e1 : (Int.ofNat y) = (y : Int) := rfl
    rw [e1]
    have eX : X ++ y :: Y = (X ++ [y]) ++ Y := by simp
    by_cases hm : y ∈ X
    · rw [Bm.tnp_same (x := (ins X, c)) (by simp [ins, hm])]
      have hno : ¬ (X ++ y :: Y).Nodup := fun h => by
        rw [List.nodup_append] at h
        exact h.2.2 y hm y (by simp) rfl
      refine ⟨fun h => absurd h hno, fun _ => ?_⟩
      have h3 := put_fold Y X c hX hY'
      by_cases h4 : (X ++ Y).Nodup
      · rw [h3.1 h4]; simp
      · have := h3.2 h4
        simp only [List.length_cons]; omega
    · rw [Bm.tnp_turn (x := (ins X, c)) hy (by simp [ins, hm])]
      simp only
      rw [ins_upd]
      have hX2 : (X ++ [y]).Nodup := by
        rw [List.nodup_append]
        refine ⟨hX, by simp, fun a ha b hb => ?_⟩
        obtain rfl : b = y := by simpa using hb
        exact fun e => hm (by rw [← e]; exact ha)
      have h3 := put_fold Y (X ++ [y]) (c + 1) hX2 hY'
      rw [eX]
      refine ⟨fun h => ?_, fun h => ?_⟩
      · rw [h3.1 h]; simp; omega
      · have := h3.2 h
        simp only [List.length_cons]; omega
theorem put_yes {n : Nat} {X Y : List Nat} (hX : X.Nodup) (hY : ∀ y ∈ Y, y < n) (h : (X ++ Y).Nodup) : Bm.tn n true (ins X) (Y.map Int.ofNat) = (ins (X ++ Y), Y.length) := by
  have := (put_fold Y X 0 hX hY).1 h
  rw [Nat.zero_add] at this
  exact this
theorem put_no {n : Nat} {X Y : List Nat} (hX : X.Nodup) (hY : ∀ y ∈ Y, y < n) (h : ¬ (X ++ Y).Nodup) : (Bm.tn n true (ins X) (Y.map Int.ofNat)).2 ≠ Y.length := by
  have := (put_fold Y X 0 hX hY).2 h
  rw [Nat.zero_add] at this
  exact Nat.ne_of_lt this

/-- how many are in it -/
theorem cnt_ins : ∀ (n : Nat) (X : List Nat), X.Nodup → (∀ x ∈ X, x < n) → Bm.cnt (ins X) n = X.length
  | 0, X, _, h => by
    cases X with
    | nil => rfl
    | cons x X => have := h x (by simp); omega
  | n + 1, X, hX, h => by
    by_cases hm : n ∈ X
    · have h1 := cnt_ins n (X.erase n) (hX.erase n) (fun x hx => by
        have h2 := h x (List.mem_of_mem_erase hx)
        have h3 : x ≠ n := fun e => by
          subst e
          exact (List.Nodup.mem_erase_iff hX).1 hx |>.1 rfl
        omega)
      have h2 : Bm.cnt (ins X) n = Bm.cnt (ins (X.erase n)) n := Bm.cnt_congr fun i hi => by
        have : i ∈ X.erase n ↔ i ∈ X := by
          rw [List.Nodup.mem_erase_iff hX]
          exact ⟨fun h => h.2, fun h => ⟨by omega, h⟩⟩
        unfold ins
        simp [this]
      have h3 := List.length_erase_of_mem hm
      have h4 := List.length_pos_of_mem hm
      rw [Bm.cnt, h2, h1]
      simp [ins, hm]
      omega
    · have h1 := cnt_ins n X hX (fun x hx => by
        have h2 := h x hx
        have h3 : x ≠ n := fun e => hm (e ▸ hx)
        omega)
      rw [Bm.cnt, h1]
      simp [ins, hm]

/-- whose a block is, and which one -/
def Own (L : List Cl) (i k b : Nat) : Prop := ∃ h : i < L.length, (blk L[i].l)[k]? = some b
theorem own_mem {L : List Cl} {i k b : Nat} (h : Own L i k b) : b ∈ bl L := by
  obtain ⟨hi, hk⟩ := h
  exact List.mem_flatMap.2 ⟨_, List.getElem_mem hi, List.mem_of_getElem? hk⟩
theorem mem_own {L : List Cl} {b : Nat} (h : b ∈ bl L) : ∃ i k, Own L i k b := by
  obtain ⟨c, hc, hb⟩ := List.mem_flatMap.1 h
  obtain ⟨i, hi, rfl⟩ := List.mem_iff_getElem.1 hc
  obtain ⟨k, hk⟩ := List.mem_iff_getElem?.1 hb
  exact ⟨i, k, hi, hk⟩
theorem own_one {L : List Cl} (hn : (bl L).Nodup) {i k i' k' b : Nat} (h : Own L i k b) (h' : Own L i' k' b) : i = i' ∧ k = k' := by
  obtain ⟨hi, hk⟩ := h
  obtain ⟨hi', hk'⟩ := h'
  have h2 := List.pairwise_flatMap.1 (show List.Pairwise (· ≠ ·) (L.flatMap fun c => blk c.l) from hn)
  have ei : i = i' := by
    have h3 := List.pairwise_iff_getElem.1 h2.2
    rcases Nat.lt_trichotomy i i' with hlt | heq | hgt
    · exact absurd rfl (h3 i i' hi hi' hlt b (List.mem_of_getElem? hk) b (List.mem_of_getElem? hk'))
    · exact heq
    · exact absurd rfl (h3 i' i hi' hi hgt b (List.mem_of_getElem? hk') b (List.mem_of_getElem? hk))
  subst ei
  refine ⟨rfl, ?_⟩
  have h4 := h2.1 _ (List.getElem_mem hi)
  have h5 := List.pairwise_iff_getElem.1 h4
  obtain ⟨a1, b1⟩ := List.getElem?_eq_some_iff.1 hk
  obtain ⟨a2, b2⟩ := List.getElem?_eq_some_iff.1 hk'
  rcases Nat.lt_trichotomy k k' with hlt | heq | hgt
  · exact absurd (b1.trans b2.symm) (h5 k k' a1 a2 hlt)
  · exact heq
  · exact absurd (b2.trans b1.symm) (h5 k' k a2 a1 hgt)
theorem own_snoc {L : List Cl} {c : Cl} {i k b : Nat} : Own (L ++ [c]) i k b ↔ Own L i k b ∨ (i = L.length ∧ (blk c.l)[k]? = some b) := by
  constructor
  · rintro ⟨h, hk⟩
    by_cases e : i < L.length
    · rw [List.getElem_append_left e] at hk
      exact .inl ⟨e, hk⟩
    · obtain rfl : i = L.length := by simp at h; omega
      simp at hk
      exact .inr ⟨rfl, hk⟩
  · rintro (⟨h, hk⟩ | ⟨rfl, hk⟩)
    · exact ⟨by simp; omega, by rw [List.getElem_append_left h]; exact hk⟩
    · exact ⟨by simp, by simpa using hk⟩
end Clm
end Go.Proofs.YtilolepbfmcbgaaGreatDoor
/- What a chain tells: Runs, Blocks. -/
namespace Go.Proofs.YtilolepbfmcbgaaGreatDoor
open Go.RowKit Go.MapKept
namespace Chn
open Vol (Hb hb_new hb_grown hb_apart)

theorem blk_snoc {l : List Pt} {m : Nat} (h : m < l.length) : blk (l.take (m + 1)) = blk (l.take m) ++ (List.range l[m].c).map (l[m].x + ·) := by
  unfold blk
  rw [List.take_succ_eq_append_getElem h, List.flatMap_append]
  simp
/-- the first m runs stand in a row -/
def Rw (cs : Array Value) (l : List Pt) (m : Nat) : Prop := ∀ j (h : j < l.length), j < m → cs[j * 2]? = some (.int .i64 (l[j].x : Int)) ∧ cs[j * 2 + 1]? = some (.int .i64 (l[j].c : Int))
theorem Rw.next {cs : Array Value} {l : List Pt} {m : Nat} (h : Rw cs l m) (hm : m < l.length) (hs : cs.size = l.length * 2) : Rw ((cs.setIfInBounds (m * 2) (.int .i64 (l[m].x : Int))).setIfInBounds (m * 2 + 1) (.int .i64 (l[m].c : Int))) l (m + 1) := by
  intro j hj hjm
  by_cases e : j = m
  · subst e
    refine ⟨?_, ?_⟩
    · rw [Array.getElem?_setIfInBounds_ne (by omega), Array.getElem?_setIfInBounds_self_of_lt (by omega)]
    · rw [Array.getElem?_setIfInBounds_self_of_lt (by simp; omega)]
  · obtain ⟨h0, h1⟩ := h j hj (by omega)
    refine ⟨?_, ?_⟩
    · rw [Array.getElem?_setIfInBounds_ne (by omega), Array.getElem?_setIfInBounds_ne (by omega)]; exact h0
    · rw [Array.getElem?_setIfInBounds_ne (by omega), Array.getElem?_setIfInBounds_ne (by omega)]; exact h1
set_option maxHeartbeats 1000000 in
set_option maxRecDepth 100000 in
theorem blocks_new (w : World) (A B : Option Addr) (n' c d : Nat) (l : List Pt) (h : Prt w B l) (hm : Mays l) (hl : l.length ≤ 65534) :
    Calls Tryz.prog 72 #[.agg #[.slice A n' c, .slice B l.length d]] w fun r w' => ∃ G gc, r = .returned (.slice G (tot l) gc) ∧ Pack.Nts w' G ((blk l).map Int.ofNat) ∧ New w.heap.size G ∧ Below w.heap.size w w' := by
  have H := Lib.hid h
  have HC := Lib.hid (fun w' (hb : Below w.heap.size w w') => count_any w' A B n' c d l (h.keep hb) hm hl)
  have HM := Lib.hid hm
  clear h hm
  go_enter Tryz.func72, Tryz.ntmps72
  go_wp2_with fail
  refine (HC.out _ ((Below.refl w.heap.size w).alloc (Nat.le_refl _) _)).mono ?_
  rintro r w1 ⟨rfl, hb1⟩
  obtain ⟨i0, hi0, hz0, hz1, hz2⟩ := info_parts Pack.int_info
  have htl := tot_le HM.out l.length
  rw [List.take_length] at htl
  have hbw := ((Below.refl w.heap.size w).alloc (Nat.le_refl _) (.cells #[.slice A n' c, .slice B l.length d] 63)).trans (hb1.mono (by simp))
  obtain ⟨w2, hmk, hown, hgr⟩ := run_make_own (P := Tryz.prog) w1 w.heap.size 50 3 i0 (.int .i64 0) 1 Tryz.underlying50 hi0 hz0 hz1 .i64 .i64 (tot l) (by rw [hz2]; omega) (by unfold maxLen; omega) hbw.size
  have HB2 := Lib.hid (hbw.grown hgr hbw.size (fun k hk => by cases hk))
  have HO := Lib.hid hown
  have HTL := Lib.hid htl
  have x1 := (hb_grown ((hb_new w #[.slice A n' c, .slice B l.length d] 63).keep hb1) hgr (fun e => by cases e)).cell 1
  clear hbw hown hgr hb1 htl
  generalize w1.heap.size = g0 at *
  go_wp2_with fail
  clear hmk x1 HC
  go_loopw [3, 13] (fun v i wr => ∃ (m : Nat) (G : Option Addr) (gc : Nat), m ≤ l.length ∧ i = .int .i64 (m : Int) ∧ v = .slice G (tot (l.take m)) gc ∧ wr.ownsRow w.heap.size 3 1 (.slice G (tot (l.take m)) gc) (tot (l.take m)) (Pack.i64s ((blk (l.take m)).map Int.ofNat)) ∧ Below w.heap.size w wr) (fun _ i _ => l.length - (intOf i).toNat)
  case atStart => exact ⟨0, some ⟨g0, 0, none⟩, tot l, Nat.zero_le _, rfl, rfl, HO.out, HB2.out⟩
  case round =>
    obtain ⟨m, G, gc, hm, rfl, rfl, hrow, hb⟩ := hrel
    clear HO HB2
    by_cases hlt : m < l.length
    · obtain ⟨b, o, rfl, hbb, hc0, hc1, hc2⟩ := H.out.at' m hlt
      have hc0 := (hb.cell (p := ⟨b, o + m * 3, none⟩) hbb).trans hc0
      have hc1 := (hb.cell (p := ⟨b, o + m * 3 + 1, none⟩) hbb).trans hc1
      have hc2 := (hb.cell (p := ⟨b, o + m * 3 + 2, none⟩) hbb).trans hc2
      have hbb := Nat.lt_of_lt_of_le hbb hb.size
      have HBO := Lib.hid (fun w => blocksOf_any w l[m].x l[m].c l[m].q _ rfl (HM.out _ (List.getElem_mem hlt)))
      have HT := Lib.hid (tot_snoc hlt)
      have HK := Lib.hid (blk_snoc hlt)
      have htk := tot_le HM.out m
      have htk2 := tot_le HM.out (m + 1)
      rw [HT.out] at htk2
      have hcl := Slo.may_lt (HM.out _ (List.getElem_mem hlt))
      generalize l[m] = p at *
      obtain ⟨p0, x, y, q⟩ := p
      simp only at hc0 hc1 hc2 HBO HT HK hcl htk2
      generalize Slo.nx q = z at *
      obtain ⟨T, hT⟩ : ∃ T, T = tot (l.take m) := ⟨_, rfl⟩
      obtain ⟨K, hK⟩ : ∃ K, K = blk (l.take m) := ⟨_, rfl⟩
      rw [← hT] at hrow HT htk htk2 ⊢
      rw [← hK] at hrow HK
      clear hT hK
      have hal := (Below.refl wr.heap.size wr).alloc (Nat.le_refl _) (.cells #[.int .i64 (x : Int), .int .i64 (y : Int), .int .i64 z] 74)
      have HB := Lib.hid (hb.trans (hal.mono hb.size))
      have HX := Lib.hid (hb_new wr #[.int .i64 (x : Int), .int .i64 (y : Int), .int .i64 z] 74)
      have HO := Lib.hid (own_keep3 hrow hal)
      clear hal hb hrow
      go_wp2_with fail
      generalize hw3 : wr.alloc (.cells #[.int .i64 (x : Int), .int .i64 (y : Int), .int .i64 z] 74) = w3 at *
      clear hw3
      generalize wr.heap.size = pb at *
      refine (HBO.out _).mono ?_
      rintro r w4 ⟨rfl, hb4⟩
      have HB4 := Lib.hid (HB.out.trans (hb4.mono HB.out.size))
      have HX4 := Lib.hid (HX.out.keep hb4)
      have HO4 := Lib.hid (own_keep3 HO.out hb4)
      clear hb4 HB HX HO HBO hc0 hc1 hc2 hbb
      clear wr
      go_wp2
      go_loopw [3, 19] (fun v i wr => ∃ (t : Nat) (G : Option Addr) (gc : Nat), t ≤ y ∧ i = .int .i64 (t : Int) ∧ v = .slice G (T + t) gc ∧ wr.ownsRow w.heap.size 3 1 (.slice G (T + t) gc) (T + t) (Pack.i64s ((K ++ (List.range t).map (x + ·)).map Int.ofNat)) ∧ Hb wr pb #[.int .i64 (x : Int), .int .i64 (y : Int), .int .i64 z] 74 ∧ Below w.heap.size w wr) (fun _ i _ => y - (intOf i).toNat)
      case atStart => exact ⟨0, G, gc, Nat.zero_le _, rfl, rfl, by simpa using HO4.out, HX4.out, HB4.out⟩
      case round =>
        obtain ⟨t, G, gc, ht, rfl, rfl, hrow, hx, hb⟩ := hrel
        clear HO4 HX4 HB4
        by_cases hty : t < y
        · have x0 := hx.cell 0
          have xl := hx.lt
          have bs := hb.size
          have HX := Lib.hid hx
          have HB := Lib.hid hb
          have HR := Lib.hid hrow
          have HO := Lib.hid (hrow.alloc (.cells #[.int .i64 ((x : Int) + (t : Int))] 3))
          clear hx hb hrow
          go_wp2_with (at_builtin
                       refine wpList_append_own_at _ rfl (.tmp 22) (.tmp 27) 50 rfl w.heap.size 3 i0 (.int .i64 0) 1 8 Tryz.underlying50 hi0 hz0 hz1 hz2 rfl (by decide) (.slice G (T + t) gc) (T + t) (Pack.i64s ((K ++ (List.range t).map (x + ·)).map Int.ofNat)) rfl HO.out ⟨wr.heap.size, 0, none⟩ 1 1 [.int .i64 ((x : Int) + (t : Int))] rfl rfl (cell_one_new _ _ _) (by simp [Value.oneCell']) (by unfold maxLen; omega) (by omega) (by simp; omega) ?_
                       intro v6 w6 hown6 hgr6 _ hat6
                       obtain ⟨G6, c6, rfl⟩ := Pack.row_slice hown6
                       have hal := (Below.refl wr.heap.size wr).alloc (Nat.le_refl _) (.cells #[.int .i64 ((x : Int) + (t : Int))] 3)
                       have HX6 := Lib.hid (hb_grown (HX.out.keep hal) hgr6 (hb_apart HX.out HR.out (by decide)))
                       have HB6 := Lib.hid ((HB.out.trans (hal.mono HB.out.size)).grown hgr6 (by simp; omega) (fun k hk => row_base_lt3 HR.out hk))
                       have HO6 := Lib.hid hown6
                       clear hown6 hgr6 hat6 hal)
          go_roundw
          case rel =>
            refine ⟨t + 1, G6, c6, by omega, by go_num, by rw [← Nat.add_assoc], ?_, HX6.out, HB6.out⟩
            have e : (K ++ (List.range (t + 1)).map (x + ·)).map Int.ofNat = (K ++ (List.range t).map (x + ·)).map Int.ofNat ++ [(x : Int) + (t : Int)] := by simp [List.range_succ]
            have h6 := HO6.out
            rw [e]
            unfold Pack.i64s at h6 ⊢
            rw [List.map_append, ← Nat.add_assoc]
            exact h6
          case measure => simp [intOf]; omega
        · obtain rfl : t = y := by omega
          have HX := Lib.hid hx
          have HB := Lib.hid hb
          have HR := Lib.hid hrow
          clear hx hb hrow
          go_wp2
          refine ⟨⟨m + 1, G, gc, by omega, by go_num, by rw [HT.out], ?_, HB.out⟩, by simp [intOf]; omega⟩
          rw [HT.out, HK.out]
          exact HR.out
    · obtain rfl : m = l.length := by omega
      rw [List.take_length] at hrow ⊢
      have hcap := row_cap3 hrow
      have htl := HTL.out
      go_wp2
      go_ret
      refine ⟨G, gc, rfl, Pack.own_nts hrow (fun x hx => ?_) (by omega), own_new hrow, hb⟩
      obtain ⟨k, hk, rfl⟩ := List.mem_map.1 hx
      obtain ⟨p, hp, hk⟩ := List.mem_flatMap.1 hk
      obtain ⟨j, hj, rfl⟩ := List.mem_map.1 hk
      have := Slo.may_lt (HM.out p hp)
      have := List.mem_range.1 hj
      simp only [Int.ofNat_eq_natCast]
      omega
theorem blocks_any (w : World) (A B : Option Addr) (n' c d : Nat) (l : List Pt) (h : Prt w B l) (hm : Mays l) (hl : l.length ≤ 65534) :
    Calls Tryz.prog 72 #[.agg #[.slice A n' c, .slice B l.length d]] w fun r w' => ∃ G gc, r = .returned (.slice G (tot l) gc) ∧ Pack.Nts w' G ((blk l).map Int.ofNat) ∧ Below w.heap.size w w' := by
  refine (blocks_new w A B n' c d l h hm hl).mono ?_
  rintro r w' ⟨G, gc, h1, h2, _, h4⟩
  exact ⟨G, gc, h1, h2, h4⟩
end Chn
end Go.Proofs.YtilolepbfmcbgaaGreatDoor
/- Claims as they lie in memory. -/
namespace Go.Proofs.YtilolepbfmcbgaaGreatDoor
open Go.RowKit Go.MapKept
namespace Clm
open Chn (Pt New Prt slots Mays tot blk blk_len)
open Vol (Vo Hb hb_new)
open Pack (Nts)

/-- where the parts of claims lie -/
structure Pc where
  lo : Nat
  nb : Nat
  cb : Nat
  bq : Nat
  bp : Nat
  sq : Nat
  sp : Nat
  pb : Nat
  c : Nat
  bC : Nat
  sC : Nat

/-- the parts lie apart -/
structure Ds (P : Pc) : Prop where
  le : P.lo ≤ P.nb ∧ P.lo ≤ P.cb ∧ P.lo ≤ P.bq ∧ P.lo ≤ P.bp ∧ P.lo ≤ P.sq ∧ P.lo ≤ P.sp ∧ P.lo ≤ P.pb ∧ P.lo ≤ P.c
  lt : P.nb < P.c ∧ P.cb < P.c ∧ P.bq < P.c ∧ P.bp < P.c ∧ P.sq < P.c ∧ P.sp < P.c ∧ P.pb < P.c
  ne : P.nb ≠ P.cb ∧ P.nb ≠ P.bq ∧ P.nb ≠ P.bp ∧ P.nb ≠ P.sq ∧ P.nb ≠ P.sp ∧ P.nb ≠ P.pb ∧ P.cb ≠ P.bq ∧ P.cb ≠ P.bp ∧ P.cb ≠ P.sq ∧ P.cb ≠ P.sp ∧ P.cb ≠ P.pb ∧ P.bq ≠ P.bp ∧ P.bq ≠ P.sq ∧ P.bq ≠ P.sp ∧ P.bq ≠ P.pb ∧ P.bp ≠ P.sq ∧ P.bp ≠ P.sp ∧ P.bp ≠ P.pb ∧ P.sq ≠ P.sp ∧ P.sq ≠ P.pb ∧ P.sp ≠ P.pb
/-- the blocks of claims: inodes, chains, the two maps, places -/
structure Cr (w : World) (P : Pc) (n m : Nat) (N C X : Array Value) (fb fs : Nat → Bool) : Prop where
  claim : Hb w P.c #[.slice (some ⟨P.nb, 0, none⟩) m m, .slice (some ⟨P.cb, 0, none⟩) m m, .pointer (some ⟨P.bp, 0, none⟩), .pointer (some ⟨P.sp, 0, none⟩), .slice (some ⟨P.pb, 0, none⟩) n n] 92
  nodes : Hb w P.nb N 58
  chains : Hb w P.cb C 63
  places : Hb w P.pb X 156
  sn : N.size = m * 3
  sc : C.size = m * 2
  sx : X.size = n * 2
  bm : Bm.Mp w P.bp P.bq ((n + 63) / 64) P.bC n fb
  sm : Bm.Mp w P.sp P.sq ((n + 63) / 64) P.sC n fs
  ord : Ds P
  max : m ≤ 65534
section
variable {w w' : World} {P : Pc} {n m : Nat} {N C X : Array Value} {fb fs : Nat → Bool}
theorem Cr.lt (h : Cr w P n m N C X fb fs) : P.c < w.heap.size := h.claim.lt
theorem Cr.keep (h : Cr w P n m N C X fb fs) (hb : Below w.heap.size w w') : Cr w' P n m N C X fb fs :=
  ⟨h.claim.keep hb, h.nodes.keep hb, h.chains.keep hb, h.places.keep hb, h.sn, h.sc, h.sx, h.bm.keep hb, h.sm.keep hb, h.ord, h.max⟩
theorem hb_chg {b : Nat} {cs : Array Value} {t : TypeId} {q : Nat} (h : Hb w b cs t) (hc : Bm.Chg q w w') (hq : b ≠ q) : Hb w' b cs t := (hc.block b h.lt hq).trans h
theorem Cr.put_b {g : Nat → Bool} (h : Cr w P n m N C X fb fs) (hm : Bm.Mp w' P.bp P.bq ((n + 63) / 64) P.bC n g) (hc : Bm.Chg P.bq w w') : Cr w' P n m N C X g fs := by
  have hl := h.ord.lt
  obtain ⟨a0, a1, a2, a3, a4, a5, a6, a7, a8, a9, a10, a11, a12, a13, a14, a15, a16, a17, a18, a19, a20⟩ := h.ord.ne
  exact ⟨hb_chg h.claim hc (by first | assumption | exact Ne.symm (by assumption) | omega), hb_chg h.nodes hc (by first | assumption | exact Ne.symm (by assumption) | omega), hb_chg h.chains hc (by first | assumption | exact Ne.symm (by assumption) | omega), hb_chg h.places hc (by first | assumption | exact Ne.symm (by assumption) | omega), h.sn, h.sc, h.sx, hm, h.sm.chg hc (by first | assumption | exact Ne.symm (by assumption) | omega) (by first | assumption | exact Ne.symm (by assumption) | omega), h.ord, h.max⟩
theorem Cr.put_s {g : Nat → Bool} (h : Cr w P n m N C X fb fs) (hm : Bm.Mp w' P.sp P.sq ((n + 63) / 64) P.sC n g) (hc : Bm.Chg P.sq w w') : Cr w' P n m N C X fb g := by
  have hl := h.ord.lt
  obtain ⟨a0, a1, a2, a3, a4, a5, a6, a7, a8, a9, a10, a11, a12, a13, a14, a15, a16, a17, a18, a19, a20⟩ := h.ord.ne
  exact ⟨hb_chg h.claim hc (by first | assumption | exact Ne.symm (by assumption) | omega), hb_chg h.nodes hc (by first | assumption | exact Ne.symm (by assumption) | omega), hb_chg h.chains hc (by first | assumption | exact Ne.symm (by assumption) | omega), hb_chg h.places hc (by first | assumption | exact Ne.symm (by assumption) | omega), h.sn, h.sc, h.sx, h.bm.chg hc (by first | assumption | exact Ne.symm (by assumption) | omega) (by first | assumption | exact Ne.symm (by assumption) | omega), hm, h.ord, h.max⟩
theorem mp_far {p q K C n : Nat} {f : Nat → Bool} (h : Bm.Mp w p q K C n f) {a : Addr} (hp : p ≠ a.block) (hq : q ≠ a.block) (v : Value) : Bm.Mp (w.setCell a v) p q K C n f :=
  h.chg ((Bm.Chg.refl a.block w).setCell rfl v) hp hq
theorem Cr.set_n (h : Cr w P n m N C X fb fs) (i : Nat) (v : Value) : Cr (w.setCell ⟨P.nb, i, none⟩ v) P n m (N.setIfInBounds i v) C X fb fs := by
  have hl := h.ord.lt
  obtain ⟨a0, a1, a2, a3, a4, a5, a6, a7, a8, a9, a10, a11, a12, a13, a14, a15, a16, a17, a18, a19, a20⟩ := h.ord.ne
  exact ⟨h.claim.far (show P.c ≠ P.nb by first | assumption | exact Ne.symm (by assumption) | omega) v, h.nodes.set i v, h.chains.far (show P.cb ≠ P.nb by first | assumption | exact Ne.symm (by assumption) | omega) v, h.places.far (show P.pb ≠ P.nb by first | assumption | exact Ne.symm (by assumption) | omega) v, by simp [h.sn], h.sc, h.sx,
    mp_far h.bm (show P.bp ≠ P.nb by first | assumption | exact Ne.symm (by assumption) | omega) (show P.bq ≠ P.nb by first | assumption | exact Ne.symm (by assumption) | omega) v, mp_far h.sm (show P.sp ≠ P.nb by first | assumption | exact Ne.symm (by assumption) | omega) (show P.sq ≠ P.nb by first | assumption | exact Ne.symm (by assumption) | omega) v, h.ord, h.max⟩
theorem Cr.set_c (h : Cr w P n m N C X fb fs) (i : Nat) (v : Value) : Cr (w.setCell ⟨P.cb, i, none⟩ v) P n m N (C.setIfInBounds i v) X fb fs := by
  have hl := h.ord.lt
  obtain ⟨a0, a1, a2, a3, a4, a5, a6, a7, a8, a9, a10, a11, a12, a13, a14, a15, a16, a17, a18, a19, a20⟩ := h.ord.ne
  exact ⟨h.claim.far (show P.c ≠ P.cb by first | assumption | exact Ne.symm (by assumption) | omega) v, h.nodes.far (show P.nb ≠ P.cb by first | assumption | exact Ne.symm (by assumption) | omega) v, h.chains.set i v, h.places.far (show P.pb ≠ P.cb by first | assumption | exact Ne.symm (by assumption) | omega) v, h.sn, by simp [h.sc], h.sx,
    mp_far h.bm (show P.bp ≠ P.cb by first | assumption | exact Ne.symm (by assumption) | omega) (show P.bq ≠ P.cb by first | assumption | exact Ne.symm (by assumption) | omega) v, mp_far h.sm (show P.sp ≠ P.cb by first | assumption | exact Ne.symm (by assumption) | omega) (show P.sq ≠ P.cb by first | assumption | exact Ne.symm (by assumption) | omega) v, h.ord, h.max⟩
theorem Cr.set_x (h : Cr w P n m N C X fb fs) (i : Nat) (v : Value) : Cr (w.setCell ⟨P.pb, i, none⟩ v) P n m N C (X.setIfInBounds i v) fb fs := by
  have hl := h.ord.lt
  obtain ⟨a0, a1, a2, a3, a4, a5, a6, a7, a8, a9, a10, a11, a12, a13, a14, a15, a16, a17, a18, a19, a20⟩ := h.ord.ne
  exact ⟨h.claim.far (show P.c ≠ P.pb by first | assumption | exact Ne.symm (by assumption) | omega) v, h.nodes.far (show P.nb ≠ P.pb by first | assumption | exact Ne.symm (by assumption) | omega) v, h.chains.far (show P.cb ≠ P.pb by first | assumption | exact Ne.symm (by assumption) | omega) v, h.places.set i v, h.sn, h.sc, by simp [h.sx],
    mp_far h.bm (show P.bp ≠ P.pb by first | assumption | exact Ne.symm (by assumption) | omega) (show P.bq ≠ P.pb by first | assumption | exact Ne.symm (by assumption) | omega) v, mp_far h.sm (show P.sp ≠ P.pb by first | assumption | exact Ne.symm (by assumption) | omega) (show P.sq ≠ P.pb by first | assumption | exact Ne.symm (by assumption) | omega) v, h.ord, h.max⟩
end

/-- what lies from block B on is as it was -/
structure Fr (B : Nat) (w w' : World) : Prop where
  size : w.heap.size ≤ w'.heap.size
  block : ∀ k, B ≤ k → k < w.heap.size → w'.heap[k]? = w.heap[k]?
section
variable {B : Nat} {w w' w'' : World}
theorem Fr.refl (B : Nat) (w : World) : Fr B w w := ⟨Nat.le_refl _, fun _ _ _ => rfl⟩
theorem Fr.trans (h : Fr B w w') (k : Fr B w' w'') : Fr B w w'' :=
  ⟨Nat.le_trans h.size k.size, fun b h1 h2 => (k.block b h1 (Nat.lt_of_lt_of_le h2 h.size)).trans (h.block b h1 h2)⟩
theorem fr_below (h : Below w.heap.size w w') : Fr B w w' := ⟨h.size, fun b _ h2 => h.block b h2⟩
theorem fr_chg {q : Nat} (h : Bm.Chg q w w') (hq : q < B) : Fr B w w' := ⟨h.size, fun b h1 h2 => h.block b h2 (by omega)⟩
theorem Fr.set (h : Fr B w w') {a : Addr} (ha : a.block < B) (v : Value) : Fr B w (w'.setCell a v) :=
  h.trans (fr_chg ((Bm.Chg.refl a.block w').setCell rfl v) ha)
theorem nts_fr {A : Option Addr} {l : List Int} (h : Nts w A l) (hn : New B A) (hf : Fr B w w') : Nts w' A l :=
  ⟨h.i64, h.len, fun j hj => by
    obtain ⟨b, o, rfl, hb, hc⟩ := h.at' j hj
    exact ⟨b, o, rfl, Nat.lt_of_lt_of_le hb hf.size, (World.cell?_of_block (w := w) (a := ⟨b, o + j, none⟩) (hf.block b (hn _ rfl) hb)).trans hc⟩⟩
theorem prt_fr {A : Option Addr} {l : List Pt} (h : Prt w A l) (hn : New B A) (hf : Fr B w w') : Prt w' A l :=
  ⟨fun j hj => by
    obtain ⟨b, o, rfl, hb, hc, hd, he⟩ := h.at' j hj
    have k := hf.block b (hn _ rfl) hb
    exact ⟨b, o, rfl, Nat.lt_of_lt_of_le hb hf.size, (World.cell?_of_block (w := w) (a := ⟨b, o + j * 3, none⟩) k).trans hc, (World.cell?_of_block (w := w) (a := ⟨b, o + j * 3 + 1, none⟩) k).trans hd, (World.cell?_of_block (w := w) (a := ⟨b, o + j * 3 + 2, none⟩) k).trans he⟩⟩
end

/-- the first inodes stand in a row -/
def Nod (N : Array Value) (L : List Cl) : Prop := ∀ j (h : j < L.length), N[j * 3]? = some (.int .i64 (L[j].k : Int)) ∧ N[j * 3 + 1]? = some (.int .i64 ((L[j].p : Int) - 1)) ∧ N[j * 3 + 2]? = some (.int .i64 (L[j].z : Int))
/-- the first chains stand in a row -/
def Chs (w : World) (B : Nat) (C : Array Value) (L : List Cl) : Prop := ∀ j (h : j < L.length), ∃ (A : Option Addr) (a : Nat) (D : Option Addr) (d : Nat), C[j * 2]? = some (.slice A L[j].l.length a) ∧ C[j * 2 + 1]? = some (.slice D L[j].l.length d) ∧
  Nts w A (slots L[j].l) ∧ Prt w D L[j].l ∧ (L[j].l.length ≤ a ∧ L[j].l.length ≤ d) ∧ (New B A ∧ New B D)
/-- whose blocks are -/
def Plc (X : Array Value) (L : List Cl) : Prop := ∀ i k b, Own L i k b → X[b * 2]? = some (.int .i64 (i : Int)) ∧ X[b * 2 + 1]? = some (.int .i64 (k : Int))
theorem Nod.nil (N : Array Value) : Nod N [] := fun _ h => absurd h (Nat.not_lt_zero _)
theorem Chs.nil (w : World) (B : Nat) (C : Array Value) : Chs w B C [] := fun _ h => absurd h (Nat.not_lt_zero _)
theorem Plc.nil (X : Array Value) : Plc X [] := fun _ _ _ h => absurd h.1 (Nat.not_lt_zero _)
theorem Nod.snoc {N : Array Value} {L : List Cl} {c : Cl} {m : Nat} (h : Nod N L) (hs : N.size = m * 3) (hm : L.length < m) :
    Nod (((N.setIfInBounds (L.length * 3) (.int .i64 (c.k : Int))).setIfInBounds (L.length * 3 + 1) (.int .i64 ((c.p : Int) - 1))).setIfInBounds (L.length * 3 + 2) (.int .i64 (c.z : Int))) (L ++ [c]) := by
  intro j hj
  by_cases e : j < L.length
  · obtain ⟨h0, h1, h2⟩ := h j e
    rw [List.getElem_append_left e]
    refine ⟨?_, ?_, ?_⟩ <;> (repeat rw [Array.getElem?_setIfInBounds_ne (by omega)]) <;> assumption
  · obtain rfl : j = L.length := by simp at hj; omega
    rw [List.getElem_concat_length rfl]
    refine ⟨?_, ?_, ?_⟩
    · rw [Array.getElem?_setIfInBounds_ne (by omega), Array.getElem?_setIfInBounds_ne (by omega), Array.getElem?_setIfInBounds_self_of_lt (by omega)]
    · rw [Array.getElem?_setIfInBounds_ne (by omega), Array.getElem?_setIfInBounds_self_of_lt (by simp; omega)]
    · rw [Array.getElem?_setIfInBounds_self_of_lt (by simp; omega)]
theorem Chs.fr {w w' : World} {B : Nat} {C : Array Value} {L : List Cl} (h : Chs w B C L) (hf : Fr B w w') : Chs w' B C L := fun j hj => by
  obtain ⟨A, a, D, d, h1, h2, h3, h4, h5, h6⟩ := h j hj
  exact ⟨A, a, D, d, h1, h2, nts_fr h3 h6.1 hf, prt_fr h4 h6.2 hf, h5, h6⟩
theorem Chs.snoc {w : World} {B : Nat} {C : Array Value} {L : List Cl} {c : Cl} {m : Nat} {A D : Option Addr} {a d : Nat} (h : Chs w B C L) (hs : C.size = m * 2) (hm : L.length < m)
    (h1 : Nts w A (slots c.l)) (h2 : Prt w D c.l) (h3 : c.l.length ≤ a ∧ c.l.length ≤ d) (h4 : New B A ∧ New B D) :
    Chs w B ((C.setIfInBounds (L.length * 2) (.slice A c.l.length a)).setIfInBounds (L.length * 2 + 1) (.slice D c.l.length d)) (L ++ [c]) := by
  intro j hj
  by_cases e : j < L.length
  · obtain ⟨A', a', D', d', k1, k2, k⟩ := h j e
    rw [List.getElem_append_left e]
    refine ⟨A', a', D', d', ?_, ?_, k⟩ <;> (repeat rw [Array.getElem?_setIfInBounds_ne (by omega)]) <;> assumption
  · obtain rfl : j = L.length := by simp at hj; omega
    rw [List.getElem_concat_length rfl]
    refine ⟨A, a, D, d, ?_, ?_, h1, h2, h3, h4⟩
    · rw [Array.getElem?_setIfInBounds_ne (by omega), Array.getElem?_setIfInBounds_self_of_lt (by omega)]
    · rw [Array.getElem?_setIfInBounds_self_of_lt (by simp; omega)]
/-- places written -/
def Pw (X X' : Array Value) (i : Nat) (Y : List Nat) : Prop :=
  (∀ k b : Nat, Y[k]? = some b → X'[b * 2]? = some (.int .i64 (i : Int)) ∧ X'[b * 2 + 1]? = some (.int .i64 (k : Int))) ∧ ∀ b : Nat, b ∉ Y → X'[b * 2]? = X[b * 2]? ∧ X'[b * 2 + 1]? = X[b * 2 + 1]?
theorem Pw.nil (X : Array Value) (i : Nat) : Pw X X i [] := ⟨fun k b h => by simp at h, fun b _ => ⟨rfl, rfl⟩⟩
theorem Pw.next {X X' : Array Value} {i n t : Nat} {Y : List Nat} (h : Pw X X' i (Y.take t)) (ht : t < Y.length) (hY : Y.Nodup) (hs : X'.size = n * 2) (hb : Y[t] < n) :
    Pw X ((X'.setIfInBounds (Y[t] * 2) (.int .i64 (i : Int))).setIfInBounds (Y[t] * 2 + 1) (.int .i64 (t : Int))) i (Y.take (t + 1)) := by
  have e : Y.take (t + 1) = Y.take t ++ [Y[t]] := List.take_succ_eq_append_getElem ht
  have hnew : Y[t] ∉ Y.take t := fun hm => by
    have h2 : (Y.take (t + 1)).Nodup := hY.sublist (List.take_sublist _ _)
    rw [e, List.nodup_append] at h2
    exact h2.2.2 _ hm _ (by simp) rfl
  generalize Y[t] = y at *
  rw [e]
  have hl : (Y.take t).length = t := by rw [List.length_take]; omega
  refine ⟨fun k b hk => ?_, fun b hb' => ?_⟩
  · by_cases hkt : k < t
    · rw [List.getElem?_append_left (by omega)] at hk
      have hne : b ≠ y := fun e => hnew (e ▸ List.mem_of_getElem? hk)
      obtain ⟨h1, h2⟩ := h.1 k b hk
      refine ⟨?_, ?_⟩ <;> (repeat rw [Array.getElem?_setIfInBounds_ne (by omega)]) <;> assumption
    · rw [List.getElem?_append_right (by omega), hl] at hk
      have hk0 : k = t := by
        rcases Nat.eq_zero_or_pos (k - t) with h0 | h0
        · omega
        · rw [List.getElem?_eq_none (by simp; omega)] at hk
          cases hk
      subst hk0
      simp at hk
      subst hk
      refine ⟨?_, ?_⟩
      · rw [Array.getElem?_setIfInBounds_ne (by omega), Array.getElem?_setIfInBounds_self_of_lt (by omega)]
      · rw [Array.getElem?_setIfInBounds_self_of_lt (by simp; omega)]
  · simp only [List.mem_append, List.mem_singleton, not_or] at hb'
    obtain ⟨h1, h2⟩ := h.2 b hb'.1
    have := hb'.2
    refine ⟨?_, ?_⟩ <;> (repeat rw [Array.getElem?_setIfInBounds_ne (by omega)]) <;> assumption
theorem Plc.snoc {X X' : Array Value} {L : List Cl} {c : Cl} (h : Plc X L) (hw : Pw X X' L.length (blk c.l)) (hn : (bl L ++ blk c.l).Nodup) : Plc X' (L ++ [c]) := by
  intro i k b ho
  rcases own_snoc.1 ho with ho | ⟨rfl, hk⟩
  · have hb : b ∉ blk c.l := fun hm => by
      rw [List.nodup_append] at hn
      exact hn.2.2 b (own_mem ho) b hm rfl
    obtain ⟨h1, h2⟩ := hw.2 b hb
    rw [h1, h2]
    exact h i k b ho
  · exact hw.1 k b hk

/-- claims of these inodes and chains -/
structure Cq (w : World) (P : Pc) (n m : Nat) (L : List Cl) (N C X : Array Value) : Prop where
  cr : Cr w P n m N C X (ins (bl L)) (ins (sl L))
  nod : Nod N L
  chs : Chs w (P.c + 1) C L
  plc : Plc X L
theorem Cq.keep {w w' : World} {P : Pc} {n m : Nat} {L : List Cl} {N C X : Array Value} (h : Cq w P n m L N C X) (hb : Below w.heap.size w w') : Cq w' P n m L N C X :=
  ⟨h.cr.keep hb, h.nod, h.chs.fr (fr_below hb), h.plc⟩
end Clm
end Go.Proofs.YtilolepbfmcbgaaGreatDoor
/- A chain's slots and blocks made an inode's. -/
namespace Go.Proofs.YtilolepbfmcbgaaGreatDoor
open Go.RowKit Go.MapKept
namespace Clm
open Chn (Pt New Prt slots Mays tot blk blk_len)
open Vol (Vo Hb hb_new)
open Pack (Nts)
open Lin (take_yes take_no)

theorem sls_ints (l : List Pt) : (sls l).map Int.ofNat = slots l := by
  unfold sls slots
  rw [List.map_map]
  rfl
theorem sls_len (l : List Pt) : (sls l).length = l.length := by simp [sls]
/-- what Put of slots or blocks answers -/
def pn (X Y : List Nat) (v : Nat) : Prop := ((X ++ Y).Nodup ∧ v = Y.length) ∨ (¬ (X ++ Y).Nodup ∧ v ≠ Y.length)
theorem pn_of {n : Nat} {X Y : List Nat} (hX : X.Nodup) (hY : ∀ y ∈ Y, y < n) : ∃ v g, Bm.tn n true (ins X) (Y.map Int.ofNat) = (g, v) ∧ (((X ++ Y).Nodup ∧ v = Y.length ∧ g = ins (X ++ Y)) ∨ (¬ (X ++ Y).Nodup ∧ v ≠ Y.length)) := by
  by_cases h : (X ++ Y).Nodup
  · exact ⟨_, _, put_yes hX hY h, .inl ⟨h, rfl, rfl⟩⟩
  · exact ⟨_, _, rfl, .inr ⟨h, put_no hX hY h⟩⟩

/-- what give leaves -/
def GvTo (w : World) (P : Pc) (n m : Nat) (N C X : Array Value) (U S : List Nat) (l : List Pt) (i : Nat) (r : Ending) (w' : World) : Prop :=
  (¬ ((S ++ sls l).Nodup ∧ (U ++ blk l).Nodup) ∧ r = .returned (.bool false) ∧ Below P.lo w w') ∨
  (((S ++ sls l).Nodup ∧ (U ++ blk l).Nodup) ∧ r = .returned (.bool true) ∧ ∃ X', Cr w' P n m N C X' (ins (U ++ blk l)) (ins (S ++ sls l)) ∧ Pw X X' i (blk l) ∧ Fr (P.c + 1) w w' ∧ Below P.lo w w')
section
variable {w : World} {P : Pc} {n m : Nat} {N C X : Array Value} {U S : List Nat}
set_option maxHeartbeats 4000000 in
set_option maxRecDepth 100000 in
theorem give_any (h : Cr w P n m N C X (ins U) (ins S)) (hU : U.Nodup) (hS : S.Nodup) (l : List Pt) (A D : Option Addr) (a d i : Nat) (hA : Nts w A (slots l)) (hD : Prt w D l) (hn : New (P.c + 1) A) (hm : Mays l) (hl : l.length ≤ 65534)
    (h1 : ∀ x ∈ sls l, x < n) (h2 : ∀ x ∈ blk l, x < n) :
    Calls Tryz.prog 82 #[.pointer (some ⟨P.c, 0, none⟩), .int .i64 (i : Int), .agg #[.slice A l.length a, .slice D l.length d]] w (GvTo w P n m N C X U S l i) := by
  have HO := Lib.hid (And.intro h.ord.le h.ord.lt)
  have HH := Lib.hid h
  have HA := Lib.hid hA
  have HN := Lib.hid hn
  have hBK := fun w' (hb : Below w.heap.size w w') => Chn.blocks_new w' A D l.length a d l (hD.keep hb) hm hl
  rw [← blk_len] at hBK
  have HBK := Lib.hid hBK
  obtain ⟨v1, g1, e1, hp1⟩ := pn_of (n := n) hS h1
  obtain ⟨v2, g2, e2, hp2⟩ := pn_of (n := n) hU h2
  rw [sls_ints] at e1
  have HE1 := Lib.hid e1
  have HE2 := Lib.hid e2
  have HP1 := Lib.hid hp1
  have HP2 := Lib.hid hp2
  have HB2 := Lib.hid h2
  have htl := Chn.tot_le hm l.length
  rw [List.take_length, ← blk_len] at htl
  have HTL := Lib.hid (show (blk l).length ≤ 5000000000 by omega)
  clear h hA htl hn hBK hD hm e1 e2 hp1 hp2 h1 h2 hU hS
  have HB0 := Lib.hid ((Below.refl w.heap.size w).alloc (Nat.le_refl _) (.cells #[.slice A l.length a, .slice D l.length d] 63))
  have HX0 := Lib.hid (hb_new w #[.slice A l.length a, .slice D l.length d] 63)
  go_enter Tryz.func82, Tryz.ntmps82
  go_wp2_with fail
  generalize w.alloc (.cells #[.slice A l.length a, .slice D l.length d] 63) = w0 at *
  refine (HBK.out _ HB0.out).mono ?_
  rintro r w1 ⟨G, gc, rfl, hng, hnw, hb⟩
  have hd : ∀ W : World, Below W.heap.size W W.drew := fun W => ⟨rfl, rfl, rfl, Nat.le_refl _, fun _ _ => rfl⟩
  have HB1 := Lib.hid (HB0.out.trans (hb.mono HB0.out.size))
  have HX1 := Lib.hid (HX0.out.keep hb)
  have hc1 := HH.out.keep HB1.out
  have HXB := Lib.hid (show P.c < w.heap.size from HH.out.lt)
  have hGn : ∀ q', q' ≤ P.c → ∀ W, Bm.Chg q' w1 W → Nts W G ((blk l).map Int.ofNat) := fun q' hq W hC =>
    nts_fr hng hnw (fr_chg hC (by have := HB0.out.size; have := HXB.out; omega))
  have HPS := Lib.hid (Bm.put_any (hc1.sm.drew) A a (slots l) (fun W hC => nts_fr (nts_fr HA.out HN.out (fr_below HB1.out)) HN.out (fr_chg ((Bm.chg_of_below (hd w1) P.sq).trans hC) (by have := HO.out; omega))))
  rw [HE1.out, Chn.slots_len] at HPS
  have c2 := hc1.claim.cell 2
  have c3 := hc1.claim.cell 3
  have cl := hc1.lt
  have x0 := HX1.out.cell 0
  have xl := HX1.out.lt
  rcases HP1.out with ⟨hs1, hs2, hs3⟩ | ⟨hs1, hs2⟩
  · rw [sls_len] at hs2
    subst hs2 hs3
    have HS1 := Lib.hid hs1
    clear hs1
    rcases HP2.out with ⟨ht1, ht2, ht3⟩ | ⟨ht1, ht2⟩
    · subst ht2 ht3
      have HT1 := Lib.hid ht1
      clear ht1
      go_wp2_with fail
      go_region_held3 (fun W' => W'.cell? ⟨P.c, 3, none⟩ = some (.pointer (some ⟨P.sp, 0, none⟩)) ∧ W'.cell? ⟨P.c, 2, none⟩ = some (.pointer (some ⟨P.bp, 0, none⟩)) ∧ W'.cell? ⟨w.heap.size, 0, none⟩ = some (.slice A l.length a)) (go_keep)
        (first
        | (go_at_call 24
           with_reducible refine HPS.out.mono ?_
           rintro r w2 ⟨rfl, hm2, hC2⟩
           have HR2 := Lib.hid ((hc1.keep (hd w1)).put_s hm2 hC2)
           have HC2 := Lib.hid ((Bm.chg_of_below (hd w1) P.sq).trans hC2)
           have hpb := Bm.put_any HR2.out.bm G gc ((blk l).map Int.ofNat) (fun W hC => nts_fr (hGn P.sq (by have := HO.out; omega) w2 HC2.out) hnw (fr_chg hC (by have := HB0.out.size; have := HXB.out; have := HO.out; omega)))
           rw [HE2.out, List.length_map] at hpb
           have HPB := Lib.hid hpb
           have e2 := HR2.out.claim.cell 2
           have e3 := HR2.out.claim.cell 3
           have y0 := (HC2.out.cell (p := ⟨w.heap.size, 0, none⟩) xl (by show w.heap.size ≠ P.sq; have := HO.out; have := HXB.out; omega)).trans x0
           have cl2 := HR2.out.lt
           have xl2 := Nat.lt_of_lt_of_le xl HC2.out.size
           clear hm2 hC2 hpb)
        | (go_at_call 24
           with_reducible refine HPB.out.mono ?_
           rintro r w3 ⟨rfl, hm3, hC3⟩
           have HR3 := Lib.hid (HR2.out.put_b hm3 hC3)
           have HC3 := Lib.hid hC3
           have k2 := HR3.out.claim.cell 2
           have k3 := HR3.out.claim.cell 3
           have z0 := (hC3.cell (p := ⟨w.heap.size, 0, none⟩) xl2 (by show w.heap.size ≠ P.bq; have := HO.out; have := HXB.out; omega)).trans y0
           clear hm3 hC3))
      have HBF := Lib.hid (show Below P.lo w w3 from (HB1.out.mono (by have := HO.out; have := HXB.out; omega)).trans
        ((HC2.out.below (by have := HO.out; have := HB1.out.size; have := HXB.out; omega) (by have := HO.out; omega)).trans
          (HC3.out.below (by have := HO.out; have := HB1.out.size; have := HC2.out.size; have := HXB.out; omega) (by have := HO.out; omega))))
      go_wp2
      have HG3 := Lib.hid (show Nts w3 G ((blk l).map Int.ofNat) from nts_fr (nts_fr hng hnw (fr_chg HC2.out (by have := HB0.out.size; have := HXB.out; have := HO.out; omega))) hnw (fr_chg HC3.out (by have := HB0.out.size; have := HXB.out; have := HO.out; omega)))
      have HNW := Lib.hid (show New w0.heap.size G from hnw)
      have HP0 := Lib.hid (show P.pb < w0.heap.size by have := HB0.out.size; have := HXB.out; have := HO.out; omega)
      have HN0 := Lib.hid (show (blk l).Nodup by have := HT1.out; rw [List.nodup_append] at this; exact this.2.1)
      have HZL := Lib.hid (show n ≤ 65534 from HH.out.bm.max)
      have HF3 := Lib.hid (show Fr (P.c + 1) w w3 from (fr_below HB1.out).trans ((fr_chg HC2.out (by have := HO.out; omega)).trans (fr_chg HC3.out (by have := HO.out; omega))))
      clear c2 c3 cl x0 xl e2 e3 y0 cl2 xl2 k2 k3 z0 hng hnw hGn hc1 hd hb
      go_loopw [36] (fun q wr => ∃ (t : Nat) (X' : Array Value), t ≤ (blk l).length ∧ q = .int .i64 (t : Int) ∧ Cr wr P n m N C X' (ins (U ++ blk l)) (ins (S ++ sls l)) ∧ Pw X X' i ((blk l).take t) ∧ Bm.Chg P.pb w3 wr) (fun q _ => (blk l).length - (intOf q).toNat)
      case atStart => exact ⟨0, X, Nat.zero_le _, rfl, HR3.out, by rw [List.take_zero]; exact Pw.nil X i, Bm.Chg.refl _ _⟩
      case round =>
        obtain ⟨t, X', ht, rfl, hcr, hpw, hC⟩ := hrel
        by_cases hlt : t < (blk l).length
        · obtain ⟨g, o, hG, hbb, hc0⟩ := (nts_fr HG3.out HNW.out (fr_chg hC HP0.out)).at' t (by rw [List.length_map]; exact hlt)
          subst hG
          rw [List.getElem_map] at hc0
          have hbn := HB2.out _ (List.getElem_mem hlt)
          have HNX := Lib.hid (hpw.next hlt HN0.out hcr.sx hbn)
          generalize (blk l)[t] = b at *
          have hc0 : wr.cell? ⟨g, o + t, none⟩ = some (.int .i64 (b : Int)) := hc0
          have HR := Lib.hid hcr
          have HC := Lib.hid hC
          have c4 := hcr.claim.cell 4
          have cl := hcr.lt
          have hsx := hcr.sx
          obtain ⟨u0, k0⟩ : ∃ v, wr.cell? ⟨P.pb, b * 2, none⟩ = some v := ⟨_, (hcr.places.cell (b * 2)).trans (Array.getElem?_eq_getElem (by omega))⟩
          obtain ⟨u1, k1⟩ : ∃ v, wr.cell? ⟨P.pb, b * 2 + 1, none⟩ = some v := ⟨_, (hcr.places.cell (b * 2 + 1)).trans (Array.getElem?_eq_getElem (by omega))⟩
          have f0 := hcr.places.frozen (b * 2)
          have f1 := hcr.places.frozen (b * 2 + 1)
          have gl := hcr.places.lt
          have hzl := HZL.out
          have htl := HTL.out
          clear hsx hcr hC hpw
          go_wp2
          refine ⟨⟨t + 1, _, by omega, by go_num, (HR.out.set_x (b * 2) (.int .i64 (i : Int))).set_x (b * 2 + 1) (.int .i64 (t : Int)), HNX.out, ?_⟩, by simp [intOf]; omega⟩
          exact (HC.out.setCell rfl _).setCell rfl _
        · obtain rfl : t = (blk l).length := by omega
          rw [List.take_length] at hpw
          go_wp2
          go_ret
          refine .inr ⟨⟨HS1.out, HT1.out⟩, rfl, X', hcr, hpw, HF3.out.trans (fr_chg hC (by have := HO.out; omega)), HBF.out.trans (hC.below ?_ ?_)⟩
          · have := HO.out; have := HB1.out.size; have := HC2.out.size; have := HC3.out.size; have := HXB.out; omega
          · have := HO.out; omega
    · have hne : ((v2 : Int) != ((blk l).length : Int)) = true := by
        simp only [bne_iff_ne, ne_eq]
        omega
      clear ht2
      have HT1 := Lib.hid ht1
      clear ht1
      go_wp2_with fail
      go_region_held3 (fun W' => W'.cell? ⟨P.c, 3, none⟩ = some (.pointer (some ⟨P.sp, 0, none⟩)) ∧ W'.cell? ⟨P.c, 2, none⟩ = some (.pointer (some ⟨P.bp, 0, none⟩)) ∧ W'.cell? ⟨w.heap.size, 0, none⟩ = some (.slice A l.length a)) (go_keep)
        (first
        | (go_at_call 24
           with_reducible refine HPS.out.mono ?_
           rintro r w2 ⟨rfl, hm2, hC2⟩
           have HR2 := Lib.hid ((hc1.keep (hd w1)).put_s hm2 hC2)
           have HC2 := Lib.hid ((Bm.chg_of_below (hd w1) P.sq).trans hC2)
           have hpb := Bm.put_any HR2.out.bm G gc ((blk l).map Int.ofNat) (fun W hC => nts_fr (hGn P.sq (by have := HO.out; omega) w2 HC2.out) hnw (fr_chg hC (by have := HB0.out.size; have := HXB.out; have := HO.out; omega)))
           rw [HE2.out, List.length_map] at hpb
           have HPB := Lib.hid hpb
           have e2 := HR2.out.claim.cell 2
           have e3 := HR2.out.claim.cell 3
           have y0 := (HC2.out.cell (p := ⟨w.heap.size, 0, none⟩) xl (by show w.heap.size ≠ P.sq; have := HO.out; have := HXB.out; omega)).trans x0
           have cl2 := HR2.out.lt
           have xl2 := Nat.lt_of_lt_of_le xl HC2.out.size
           clear hm2 hC2 hpb)
        | (go_at_call 24
           with_reducible refine HPB.out.mono ?_
           rintro r w3 ⟨rfl, hm3, hC3⟩
           have HR3 := Lib.hid (HR2.out.put_b hm3 hC3)
           have HC3 := Lib.hid hC3
           have k2 := HR3.out.claim.cell 2
           have k3 := HR3.out.claim.cell 3
           have z0 := (hC3.cell (p := ⟨w.heap.size, 0, none⟩) xl2 (by show w.heap.size ≠ P.bq; have := HO.out; have := HXB.out; omega)).trans y0
           clear hm3 hC3))
      have HBF := Lib.hid (show Below P.lo w w3 from (HB1.out.mono (by have := HO.out; have := HXB.out; omega)).trans
        ((HC2.out.below (by have := HO.out; have := HB1.out.size; have := HXB.out; omega) (by have := HO.out; omega)).trans
          (HC3.out.below (by have := HO.out; have := HB1.out.size; have := HC2.out.size; have := HXB.out; omega) (by have := HO.out; omega))))
      go_wp2
      go_ret
      exact .inl ⟨fun h => HT1.out h.2, rfl, HBF.out⟩
  · have hne : ((v1 : Int) != (l.length : Int)) = true := by
      rw [sls_len] at hs2
      simp only [bne_iff_ne, ne_eq]
      omega
    clear hs2
    have HS1 := Lib.hid hs1
    clear hs1
    go_wp2_with fail
    refine wp_region_held_drew (S := (fun W' => W'.cell? ⟨P.c, 3, none⟩ = some (.pointer (some ⟨P.sp, 0, none⟩)) ∧ W'.cell? ⟨w.heap.size, 0, none⟩ = some (.slice A l.length a))) (by kernel_rfl) ?_ (fun hHeld => ?_)
    · exact ⟨c3, x0⟩
    refine take_yes 0 12 (.pointer (some ⟨P.c, 0, none⟩)) rfl rfl (by kernel_rfl) (by kernel_rfl) (by kernel_rfl) (fun _ _ _ h => h) rfl ?_ (by assumption) ?_
    · intro w hSw
      try dsimp only at hSw
      go_simp
    simp only [Act.put, List.setIfInBounds_toArray, List.set_cons_zero, List.set_cons_succ]
    refine take_yes 1 13 (.pointer (some ⟨P.c, 0, none⟩)) rfl rfl (by kernel_rfl) (by kernel_rfl) (by kernel_rfl) (fun _ _ _ h => h) rfl ?_ (by assumption) ?_
    · intro w hSw
      try dsimp only at hSw
      go_simp
    simp only [Act.put, List.setIfInBounds_toArray, List.set_cons_zero, List.set_cons_succ]
    refine take_yes 2 14 (.pointer (some ⟨P.c, 3, none⟩)) rfl rfl (by kernel_rfl) (by kernel_rfl) (by kernel_rfl) (fun _ _ _ h => h) rfl ?_ (by assumption) ?_
    · intro w hSw
      try dsimp only at hSw
      go_simp
    simp only [Act.put, List.setIfInBounds_toArray, List.set_cons_zero, List.set_cons_succ]
    refine take_yes 3 15 (.pointer (some ⟨P.sp, 0, none⟩)) rfl rfl (by kernel_rfl) (by kernel_rfl) (by kernel_rfl) (fun _ _ _ h => h) rfl ?_ (by assumption) ?_
    · intro w hSw
      try dsimp only at hSw
      go_simp
    simp only [Act.put, List.setIfInBounds_toArray, List.set_cons_zero, List.set_cons_succ]
    refine take_yes 4 16 (.pointer (some ⟨w.heap.size, 0, none⟩)) rfl rfl (by kernel_rfl) (by kernel_rfl) (by kernel_rfl) (fun _ _ _ h => h) rfl ?_ (by assumption) ?_
    · intro w hSw
      try dsimp only at hSw
      go_simp
    simp only [Act.put, List.setIfInBounds_toArray, List.set_cons_zero, List.set_cons_succ]
    refine take_yes 5 17 (.slice A l.length a) rfl rfl (by kernel_rfl) (by kernel_rfl) (by kernel_rfl) (fun _ _ _ h => h) rfl ?_ (by assumption) ?_
    · intro w hSw
      try dsimp only at hSw
      go_simp
    simp only [Act.put, List.setIfInBounds_toArray, List.set_cons_zero, List.set_cons_succ]
    refine take_yes 7 19 (.pointer (some ⟨w.heap.size, 0, none⟩)) rfl rfl (by kernel_rfl) (by kernel_rfl) (by kernel_rfl) (fun _ _ _ h => h) rfl ?_ (by assumption) ?_
    · intro w hSw
      try dsimp only at hSw
      go_simp
    simp only [Act.put, List.setIfInBounds_toArray, List.set_cons_zero, List.set_cons_succ]
    refine take_yes 8 20 (.slice A l.length a) rfl rfl (by kernel_rfl) (by kernel_rfl) (by kernel_rfl) (fun _ _ _ h => h) rfl ?_ (by assumption) ?_
    · intro w hSw
      try dsimp only at hSw
      go_simp
    simp only [Act.put, List.setIfInBounds_toArray, List.set_cons_zero, List.set_cons_succ]
    refine take_yes 9 21 (.int .i64 (l.length : Int)) rfl rfl (by kernel_rfl) (by kernel_rfl) (by kernel_rfl) (fun _ _ _ h => h) rfl ?_ (by assumption) ?_
    · intro w hSw
      try dsimp only at hSw
      go_simp
    simp only [Act.put, List.setIfInBounds_toArray, List.set_cons_zero, List.set_cons_succ]
    refine wpAnyH_ready (rs := [6]) (by kernel_rfl) (by simp) ?_
    refine AllReadyH.cons rfl (fun K hK => ?_) AllReadyH.nil
    go_simp
    go_at_call 24
    with_reducible refine HPS.out.mono ?_
    rintro r w2 ⟨rfl, hm2, hC2⟩
    have d3 := (hC2.cell (p := ⟨P.c, 3, none⟩) cl (by show P.c ≠ P.sq; have := HO.out; omega)).trans c3
    have y0 := (hC2.cell (p := ⟨w.heap.size, 0, none⟩) xl (by show w.heap.size ≠ P.sq; have := HO.out; have := HXB.out; omega)).trans x0
    have HC2 := Lib.hid hC2
    clear hm2 hC2 hHeld
    go_wp2_with fail
    refine hK.out _ _ ⟨d3, y0⟩ (fun hHeld => ?_)
    clear hK K
    refine take_yes 10 22 (.bool true) rfl rfl (by kernel_rfl) (by kernel_rfl) (by kernel_rfl) (fun _ _ _ h => h) rfl ?_ (by assumption) ?_
    · intro w hSw
      try dsimp only at hSw
      go_simp
    simp only [Act.put, List.setIfInBounds_toArray, List.set_cons_zero, List.set_cons_succ]
    refine take_yes 11 23 (.bool true) rfl rfl (by kernel_rfl) (by kernel_rfl) (by kernel_rfl) (fun _ _ _ h => h) rfl ?_ (by assumption) ?_
    · intro w hSw
      try dsimp only at hSw
      go_simp
    simp only [Act.put, List.setIfInBounds_toArray, List.set_cons_zero, List.set_cons_succ]
    refine take_no 12 24 rfl rfl (by kernel_rfl) (by kernel_rfl) (by kernel_rfl) (fun _ _ _ h => h) rfl (by assumption) ?_
    simp only [Act.put, List.setIfInBounds_toArray, List.set_cons_zero, List.set_cons_succ]
    refine take_no 13 25 rfl rfl (by kernel_rfl) (by kernel_rfl) (by kernel_rfl) (fun _ _ _ h => h) rfl (by assumption) ?_
    simp only [Act.put, List.setIfInBounds_toArray, List.set_cons_zero, List.set_cons_succ]
    refine take_no 14 26 rfl rfl (by kernel_rfl) (by kernel_rfl) (by kernel_rfl) (fun _ _ _ h => h) rfl (by assumption) ?_
    simp only [Act.put, List.setIfInBounds_toArray, List.set_cons_zero, List.set_cons_succ]
    refine take_no 15 27 rfl rfl (by kernel_rfl) (by kernel_rfl) (by kernel_rfl) (fun _ _ _ h => h) rfl (by assumption) ?_
    simp only [Act.put, List.setIfInBounds_toArray, List.set_cons_zero, List.set_cons_succ]
    refine take_no 16 28 rfl rfl (by kernel_rfl) (by kernel_rfl) (by kernel_rfl) (fun _ _ _ h => h) rfl (by assumption) ?_
    simp only [Act.put, List.setIfInBounds_toArray, List.set_cons_zero, List.set_cons_succ]
    refine take_no 17 29 rfl rfl (by kernel_rfl) (by kernel_rfl) (by kernel_rfl) (fun _ _ _ h => h) rfl (by assumption) ?_
    simp only [Act.put, List.setIfInBounds_toArray, List.set_cons_zero, List.set_cons_succ]
    refine take_no 18 30 rfl rfl (by kernel_rfl) (by kernel_rfl) (by kernel_rfl) (fun _ _ _ h => h) rfl (by assumption) ?_
    simp only [Act.put, List.setIfInBounds_toArray, List.set_cons_zero, List.set_cons_succ]
    refine take_no 19 31 rfl rfl (by kernel_rfl) (by kernel_rfl) (by kernel_rfl) (fun _ _ _ h => h) rfl (by assumption) ?_
    simp only [Act.put, List.setIfInBounds_toArray, List.set_cons_zero, List.set_cons_succ]
    refine take_no 20 32 rfl rfl (by kernel_rfl) (by kernel_rfl) (by kernel_rfl) (fun _ _ _ h => h) rfl (by assumption) ?_
    simp only [Act.put, List.setIfInBounds_toArray, List.set_cons_zero, List.set_cons_succ]
    refine take_yes 21 33 (.bool true) rfl rfl (by kernel_rfl) (by kernel_rfl) (by kernel_rfl) (fun _ _ _ h => h) rfl ?_ (by assumption) ?_
    · intro w hSw
      try dsimp only at hSw
      go_simp
    simp only [Act.put, List.setIfInBounds_toArray, List.set_cons_zero, List.set_cons_succ]
    refine wpAnyH_done (by kernel_rfl) ?_ _
    go_wp2
    go_ret
    refine .inl ⟨fun h => HS1.out h.1, rfl, ?_⟩
    refine (HB1.out.mono (by have := HO.out; have := HXB.out; omega)).trans ?_
    exact (((Bm.chg_of_below (hd w1) P.sq).trans HC2.out).below (by have := HO.out; have := HB1.out.size; have := HXB.out; omega) (by have := HO.out; omega))
end
end Clm
end Go.Proofs.YtilolepbfmcbgaaGreatDoor
/- A volume's inodes: read and written. -/
namespace Go.Proofs.YtilolepbfmcbgaaGreatDoor
open Go.RowKit Go.MapKept
namespace Vol
theorem row_words {w : World} {g n : Nat} {l : List Nat} (h : w.rowIs g 121 n (fun i => .int .u64 ((l[i]?.getD 0 : Nat) : Int))) (hl : l.length = n) (hn : n ≤ 4194304) (hu : ∀ x ∈ l, x < 18446744073709551616) : Pack.Wds w (some ⟨g, 0, none⟩) l :=
  ⟨hu, by omega, fun j hj => ⟨g, 0, rfl, h.lt, by
    rw [Nat.zero_add, h.cell (by omega), List.getElem?_eq_getElem hj]
    rfl⟩⟩
theorem bel_d (V : World) : Below V.heap.size V V.drew := ⟨rfl, rfl, rfl, Nat.le_refl _, fun _ _ => rfl⟩
/-- stores made of words, wherever they lie -/
theorem stores_at {w : World} {f L : Nat} {A : Option Addr} {c : Nat} {l : List Nat} (h : Pack.Wds w A l) (hl : l.length = L) (hf : f ≤ 10000000) (hL : L ≤ 4194304) {W : World} (hb : Below w.heap.size w W) :
    Calls Tryz.prog 63 #[.int .i64 (f : Int), .slice A L c] W fun r w' => ∃ gs, r = .returned (.slice (some ⟨gs, 0, none⟩) L L) ∧ W.heap.size ≤ gs ∧ Sts w' gs (sto f l) ∧ Below W.heap.size W w' := by
  have hs := storesOf_any (w := W) f A c l (h.keep hb) hf (by omega)
  rw [hl] at hs
  exact hs.mono fun r w' ⟨e, h1, _, h3⟩ => ⟨_, e, Nat.le_refl _, h1, h3⟩
section
variable {Q Q' : Nat → Prop} {w w' : World} {vb a n m s : Nat} {W : List Nat} {st sn : Nat}
/-- the stores of words, all at once -/
theorem write_sto (h : Vo Q w vb a n m s W st sn) {w1 w2 : World} (hb : Below w.heap.size w w1) {gs f L : Nat} {l : List Nat} (hg : w1.heap.size ≤ gs) (hS : Sts w2 gs (sto f l)) (hb2 : Below w1.heap.size w1 w2) (hl : l.length = L) (hin : f + L ≤ W.length) (hu : ∀ x ∈ l, x < 18446744073709551616) (hs : st + 2 * L < 100000000000) :
    Calls Tryz.prog 62 #[.agg #[.pointer (some ⟨a, 0, none⟩)], .slice (some ⟨gs, 0, none⟩) L L] w2 fun r w' =>
      r = .returned (.int .i64 0) ∧ Vo Q w' vb a n m s (puts W (sto f l)) (st + L + lc f L) (sn + L) ∧ Kq Q w w' := by
  have hsl : (sto f l).length = L := by rw [sto_len, hl]
  have hsz := h.up.size
  have hw := write_any ((h.up.keep hb).grow hb2) gs L (sto f l) hS (.inr ⟨hg, hS.lt⟩) (fun t ht => ⟨sto_lt (by rw [hl]; exact hin) t ht, sto_u64 hu t ht⟩) (by rw [hsl]; omega) (by rw [hsl]; omega)
  rw [hsl, sto_lc, hl] at hw
  refine hw.mono ?_
  rintro r w3 ⟨rfl, hup, hk⟩
  have hk2 := (kq_below (Q := Q) (hb.trans (hb2.mono hb.size))).trans (hk.sub (fun k h => .inl h))
  exact ⟨rfl, h.next (hup.sub (fun k h => .inl h)) hk2 (puts_len _ _), hk2⟩

theorem inode_place (h : Vo Q w vb a n m s W st sn) (i : Nat) (hi : i < m) (w' : World) : Calls Tryz.prog 59 #[.agg #[.int .i64 n, .int .i64 m, .int .i64 s], .int .i64 (i : Int)] w' fun r w'' => r = .returned (.int .i64 ((16 + 8 * i : Nat) : Int)) ∧ Below w'.heap.size w' w'' := by
  have hp := Geo.inode_any w' (n : Int) (m : Int) (s : Int) (i : Int)
  rw [Geo.plc_yes h.may (by omega) (by omega), show (16 : Int) + (i : Int) * 8 = ((16 + 8 * i : Nat) : Int) by omega] at hp
  exact hp
theorem inode_none {i : Int} (h : i < 0 ∨ (m : Int) ≤ i) (w : World) : Calls Tryz.prog 59 #[.agg #[.int .i64 n, .int .i64 m, .int .i64 s], .int .i64 i] w fun r w'' => r = .returned (.int .i64 (-1)) ∧ Below w.heap.size w w'' := by
  have hp := Geo.inode_any w (n : Int) (m : Int) (s : Int) i
  rw [Geo.plc_out (by omega)] at hp
  exact hp
/-- an inode's line is within -/
theorem inode_in (h : Vo Q w vb a n m s W st sn) {i : Nat} (hi : i < m) : 16 + 8 * i + 8 ≤ W.length ∧ i ≤ 65534 := by
  obtain ⟨h1, h2, h3⟩ := h.num
  have h4 := Geo.bm_bounds h1 h2
  have h5 := Geo.bk_bounds h1 h2
  have h6 := Geo.fin_bounds h1 h2 h3
  have h7 := h.len
  unfold Geo.fin at h7
  omega
theorem gv_ino (q : Option (Nat × Nat × Nat)) : ∃ x y z : Int, Ino.gv q = .agg #[.int .i64 x, .int .i64 y, .int .i64 z] := by
  cases q with
  | none => exact ⟨0, -1, 0, rfl⟩
  | some t => exact ⟨_, _, _, rfl⟩

set_option maxHeartbeats 4000000 in
set_option maxRecDepth 100000 in
theorem inode_no (h : Vo Q w vb a n m s W st sn) (i : Int) (hi : i < 0 ∨ (m : Int) ≤ i) :
    Calls Tryz.prog 80 #[.pointer (some ⟨vb, 0, none⟩), .int .i64 i] w fun r w' => r = .returned (.tuple #[.agg #[.int .i64 0, .int .i64 (-1), .int .i64 0], .int .i64 9]) ∧ Below w.heap.size w w' := by
  obtain ⟨c0, c1, c2, c3⟩ := h.cells
  have hlt := h.lt
  have HP := Lib.hid (fun w => inode_none (n := n) (s := s) hi w)
  have HN := Lib.hid (fun w => isNone_any w (-1))
  have HI := Lib.hid (fun w => Ino.none_any w)
  have HX := Lib.hid (Lin.owned w 0 0 0 58)
  have HB0 := Lib.hid ((Below.refl w.heap.size w).alloc (Nat.le_refl _) (.cells #[.int .i64 0, .int .i64 0, .int .i64 0] 58))
  clear h hi
  go_enter Tryz.func80, Tryz.ntmps80
  go_wp2_with fail
  generalize w.alloc (.cells #[.int .i64 0, .int .i64 0, .int .i64 0] 58) = w0 at *
  refine (HP.out _).mono ?_
  rintro r w1 ⟨rfl, hb⟩
  have HB := Lib.hid (HB0.out.trans (hb.mono HB0.out.size))
  have HX1 := Lib.hid (HX.out.keep hb)
  clear hb HP HX HB0
  go_wp2_with fail
  refine (HN.out _).mono ?_
  rintro r w2 ⟨rfl, rfl⟩
  go_wp2_with fail
  refine (HI.out _).mono ?_
  rintro r w2 ⟨rfl, hb⟩
  have HB2 := Lib.hid (HB.out.trans (hb.mono HB.out.size))
  have HX2 := Lib.hid (HX1.out.keep hb)
  clear hb HX1 HB
  have hc0 := HX2.out.box.c0
  have hc1 := HX2.out.box.c1
  have hc2 := HX2.out.box.c2
  have hf0 := HX2.out.f 0
  have hf1 := HX2.out.f 1
  have hf2 := HX2.out.f 2
  have hl1 := HX2.out.box.lt
  go_wp2
  refine bodyPost_ret (v := .tuple #[.agg #[.int .i64 0, .int .i64 (-1), .int .i64 0], .int .i64 9]) ?_ rfl ⟨rfl, ?_⟩
  · simp [results, Tryz.results80, go_sem, hc0, hc1, hc2]
  · exact ((HB2.out.setCell (Nat.le_refl _) _).setCell (Nat.le_refl _) _).setCell (Nat.le_refl _) _

set_option maxHeartbeats 4000000 in
set_option maxRecDepth 100000 in
theorem inode_yes (h : Vo Q w vb a n m s W st sn) (i : Nat) (hi : i < m) :
    Calls Tryz.prog 80 #[.pointer (some ⟨vb, 0, none⟩), .int .i64 (i : Int)] w fun r w' =>
      r = .returned (.tuple #[Ino.gv (Ino.dec (rdw W (16 + 8 * i) 8)), .int .i64 (Ino.ev (Ino.dec (rdw W (16 + 8 * i) 8)))]) ∧ Below w.heap.size w w' := by
  obtain ⟨c0, c1, c2, c3⟩ := h.cells
  have hlt := h.lt
  have hin := inode_in h hi
  have HP := Lib.hid (inode_place h i hi)
  have HX := Lib.hid (Lin.owned w 0 0 0 58)
  have HB0 := Lib.hid ((Below.refl w.heap.size w).alloc (Nat.le_refl _) (.cells #[.int .i64 0, .int .i64 0, .int .i64 0] 58))
  have HRD := Lib.hid (fun w' (hb : Below w.heap.size w w') => read_any (h.up.keep hb) (16 + 8 * i) 8 (by omega) (by omega))
  have hru := rdw_u64 h.up.u64 (16 + 8 * i) 8
  have hrl := rdw_len W (16 + 8 * i) 8
  have hp0 := pos_not (16 + 8 * i)
  generalize rdw W (16 + 8 * i) 8 = L at *
  generalize 16 + 8 * i = p at *
  have HN := Lib.hid (fun w => isNone_any w (p : Int))
  rw [hp0] at HN
  have HD := Lib.hid (fun (w' : World) (g : Nat) (hr : w'.rowIs g 121 8 (fun i => .int .u64 ((L[i]?.getD 0 : Nat) : Int))) => show Calls Tryz.prog 124 #[.slice (some ⟨g, 0, none⟩) 8 8] w' _ from by
    have hd := Ino.decode_any (some ⟨g, 0, none⟩) 8 L (row_words hr hrl (by omega) hru)
    rw [hrl] at hd
    exact hd)
  obtain ⟨g0, g1, g2, hg⟩ := gv_ino (Ino.dec L)
  rw [hg] at HD ⊢
  generalize Ino.ev (Ino.dec L) = e at *
  have H := Lib.hid h
  clear h hi hg hp0 hin hru hrl
  go_enter Tryz.func80, Tryz.ntmps80
  go_wp2_with fail
  generalize w.alloc (.cells #[.int .i64 0, .int .i64 0, .int .i64 0] 58) = w0 at *
  refine (HP.out _).mono ?_
  rintro r w1 ⟨rfl, hb⟩
  have HB := Lib.hid (HB0.out.trans (hb.mono HB0.out.size))
  have HX1 := Lib.hid (HX.out.keep hb)
  clear hb HP HX c0 c1 c2 c3
  obtain ⟨c0, _, _, _⟩ := (H.out.keep HB.out).cells
  have hl2 := (H.out.keep HB.out).lt
  go_wp2_with fail
  refine (HN.out _).mono ?_
  rintro r w2 ⟨rfl, rfl⟩
  go_wp2_with fail
  refine (HRD.out _ HB.out).mono ?_
  rintro r w2 ⟨gr, rfl, _, hrow, hb⟩
  have HROW := Lib.hid hrow
  have HB2 := Lib.hid (HB.out.trans (hb.mono HB.out.size))
  have HX2 := Lib.hid (HX1.out.keep hb)
  clear hb hrow HX1 HB HRD c0
  go_wp2_with fail
  refine (HD.out _ _ HROW.out).mono ?_
  rintro r w3 ⟨rfl, hb⟩
  have HB3 := Lib.hid (HB2.out.trans (hb.mono HB2.out.size))
  have HX3 := Lib.hid (HX2.out.keep hb)
  clear hb HX2 HB2 HD HROW
  have hc0 := HX3.out.box.c0
  have hc1 := HX3.out.box.c1
  have hc2 := HX3.out.box.c2
  have hf0 := HX3.out.f 0
  have hf1 := HX3.out.f 1
  have hf2 := HX3.out.f 2
  go_wp2
  refine bodyPost_ret (v := .tuple #[.agg #[.int .i64 g0, .int .i64 g1, .int .i64 g2], .int .i64 e]) ?_ rfl ⟨rfl, ?_⟩
  · simp [results, Tryz.results80, go_sem, hc0, hc1, hc2]
  · exact ((HB3.out.setCell (Nat.le_refl _) _).setCell (Nat.le_refl _) _).setCell (Nat.le_refl _) _

theorem setInode_out (h : Vo Q w vb a n m s W st sn) (i x y z : Int) (hi : i < 0 ∨ (m : Int) ≤ i) :
    Calls Tryz.prog 28 #[.pointer (some ⟨vb, 0, none⟩), .int .i64 i, .agg #[.int .i64 x, .int .i64 y, .int .i64 z]] w fun r w' => r = .returned (.int .i64 9) ∧ Below w.heap.size w w' := by
  obtain ⟨c0, c1, c2, c3⟩ := h.cells
  have hlt := h.lt
  have HB0 := Lib.hid ((Below.refl w.heap.size w).alloc (Nat.le_refl _) (.cells #[.int .i64 x, .int .i64 y, .int .i64 z] 58))
  have HP := Lib.hid (fun w => inode_none (n := n) (s := s) hi w)
  have HN := Lib.hid (fun w => isNone_any w (-1))
  clear h hi
  go_enter Tryz.func28, Tryz.ntmps28
  go_wp2_with fail
  generalize w.alloc (.cells #[.int .i64 x, .int .i64 y, .int .i64 z] 58) = w0 at *
  refine (HP.out _).mono ?_
  rintro r w1 ⟨rfl, hb⟩
  have HB := Lib.hid (HB0.out.trans (hb.mono HB0.out.size))
  clear hb HP HB0
  go_wp2_with fail
  refine (HN.out _).mono ?_
  rintro r w2 ⟨rfl, rfl⟩
  go_wp2
  go_ret
  exact ⟨rfl, HB.out⟩

theorem setInode_no (h : Vo Q w vb a n m s W st sn) (i : Nat) (x y z : Int) (hi : i < m) (hm : Ino.may x y z = false) :
    Calls Tryz.prog 28 #[.pointer (some ⟨vb, 0, none⟩), .int .i64 (i : Int), .agg #[.int .i64 x, .int .i64 y, .int .i64 z]] w fun r w' => r = .returned (.int .i64 1) ∧ Below w.heap.size w w' := by
  obtain ⟨c0, c1, c2, c3⟩ := h.cells
  have hlt := h.lt
  have HX := Lib.hid (Lin.boxed w x y z 58)
  have HB0 := Lib.hid ((Below.refl w.heap.size w).alloc (Nat.le_refl _) (.cells #[.int .i64 x, .int .i64 y, .int .i64 z] 58))
  have HP := Lib.hid (inode_place h i hi)
  have hp0 := pos_not (16 + 8 * i)
  generalize 16 + 8 * i = p at *
  have HN := Lib.hid (fun w => isNone_any w (p : Int))
  rw [hp0] at HN
  have HE := Lib.hid (fun w => Ino.encode_no w x y z hm)
  clear h hi hm hp0
  go_enter Tryz.func28, Tryz.ntmps28
  go_wp2_with fail
  generalize w.alloc (.cells #[.int .i64 x, .int .i64 y, .int .i64 z] 58) = w0 at *
  refine (HP.out _).mono ?_
  rintro r w1 ⟨rfl, hb⟩
  have HB := Lib.hid (HB0.out.trans (hb.mono HB0.out.size))
  have HX1 := Lib.hid (HX.out.keep hb)
  clear hb HP HX HB0
  go_wp2_with fail
  refine (HN.out _).mono ?_
  rintro r w2 ⟨rfl, rfl⟩
  have x0 := HX1.out.c0
  have x1 := HX1.out.c1
  have x2 := HX1.out.c2
  have xl := HX1.out.lt
  go_wp2_with fail
  refine (HE.out _).mono ?_
  rintro r w2 ⟨rfl, hb⟩
  have HB2 := Lib.hid (HB.out.trans (hb.mono HB.out.size))
  clear hb HB HE
  go_wp2
  go_ret
  exact ⟨rfl, HB2.out⟩

set_option maxHeartbeats 4000000 in
set_option maxRecDepth 100000 in
theorem setInode_yes (h : Vo Q w vb a n m s W st sn) (i k p z : Nat) (y : Int) (hi : i < m) (hy : y = (p : Int) - 1) (hm : Ino.may k ((p : Int) - 1) z = true) (hs : st + 16 < 100000000000) :
    Calls Tryz.prog 28 #[.pointer (some ⟨vb, 0, none⟩), .int .i64 (i : Int), .agg #[.int .i64 (k : Int), .int .i64 y, .int .i64 (z : Int)]] w fun r w' =>
      r = .returned (.int .i64 0) ∧ Vo Q w' vb a n m s (puts W (sto (16 + 8 * i) (Ino.ln k p z))) (st + 8 + lc (16 + 8 * i) 8) (sn + 8) ∧ Kq Q w w' := by
  obtain ⟨c0, c1, c2, c3⟩ := h.cells
  have hlt := h.lt
  have HX := Lib.hid (Lin.boxed w (k : Int) y (z : Int) 58)
  have HB0 := Lib.hid ((Below.refl w.heap.size w).alloc (Nat.le_refl _) (.cells #[.int .i64 (k : Int), .int .i64 y, .int .i64 (z : Int)] 58))
  have HP := Lib.hid (inode_place h i hi)
  have hin := inode_in h hi
  have hsz := h.up.size
  have hin : 16 + 8 * i + 8 ≤ W.length ∧ W.length ≤ 4194304 := ⟨hin.1, hsz⟩
  have hp0 := pos_not (16 + 8 * i)
  generalize 16 + 8 * i = f at *
  have HN := Lib.hid (fun w => isNone_any w (f : Int))
  rw [hp0] at HN
  have HE := Lib.hid (fun w => Ino.encode_yes w k p z y hy hm)
  have HLL := Lib.hid (show (Ino.ln k p z).length = 8 ∧ ∀ x ∈ Ino.ln k p z, x < 18446744073709551616 from ⟨Ino.ln_len k p z, Ino.ln_u64 hm⟩)
  generalize Ino.ln k p z = L at *
  have HIN := Lib.hid hin
  have HST := Lib.hid hs
  have H := Lib.hid h
  clear h hi hm hp0 hy hin hs hsz
  go_enter Tryz.func28, Tryz.ntmps28
  go_wp2_with fail
  generalize w.alloc (.cells #[.int .i64 (k : Int), .int .i64 y, .int .i64 (z : Int)] 58) = w0 at *
  refine (HP.out _).mono ?_
  rintro r w1 ⟨rfl, hb⟩
  have HB := Lib.hid (HB0.out.trans (hb.mono HB0.out.size))
  have HX1 := Lib.hid (HX.out.keep hb)
  clear hb HP HX HB0
  go_wp2_with fail
  refine (HN.out _).mono ?_
  rintro r w2 ⟨rfl, rfl⟩
  have x0 := HX1.out.c0
  have x1 := HX1.out.c1
  have x2 := HX1.out.c2
  have xl := HX1.out.lt
  go_wp2_with fail
  refine (HE.out _).mono ?_
  rintro r w2 ⟨gr, _, rfl, hrow, hb⟩
  have HROW := Lib.hid (Lin.row_pack hrow HLL.out.1 HLL.out.2)
  have HB2 := Lib.hid (HB.out.trans (hb.mono HB.out.size))
  clear hb HB HE c0 c1 c2 c3 hrow x0 x1 x2 xl HX1
  obtain ⟨c0, _, _, _⟩ := (H.out.keep HB2.out).cells
  have hl2 := (H.out.keep HB2.out).lt
  have HSO := Lib.hid (stores_at (f := f) (c := 8) HROW.out HLL.out.1 (by have := HIN.out; omega) (by omega) (bel_d w2))
  go_wp2_with fail
  go_region_held3 (fun W' => W'.cell? ⟨vb, 0, none⟩ = some (.pointer (some ⟨a, 0, none⟩))) (go_keep)
    (first
    | (go_at_call 63
       with_reducible refine HSO.out.mono ?_
       rintro e w3 ⟨gs, rfl, hg, hS, hb⟩
       have hc3 := ((H.out.keep HB2.out).keep ((bel_d w2).trans (hb.mono (bel_d w2).size))).cells.1
       have HWR := Lib.hid (write_sto H.out (HB2.out.trans ((bel_d w2).mono HB2.out.size)) hg hS hb HLL.out.1 (by have := HIN.out; omega) HLL.out.2 (by have := HST.out; omega))
       clear hg hS hb)
    | (go_at_call 62
       with_reducible refine HWR.out.mono ?_
       rintro e w4 ⟨rfl, hv4, hk4⟩
       have hc4 := hv4.cells.1
       have HV4 := Lib.hid hv4
       have HK4 := Lib.hid hk4
       clear hv4 hk4))
  go_wp2
  go_ret
  exact ⟨rfl, HV4.out, HK4.out⟩
end
end Vol
end Go.Proofs.YtilolepbfmcbgaaGreatDoor
/- An inode taken into the claims. -/
namespace Go.Proofs.YtilolepbfmcbgaaGreatDoor
open Go.RowKit Go.MapKept
namespace Clm
open Chn (Pt New Prt slots Mays tot blk blk_len rd pat fw RdN read_new)
open Vol (Vo Hb hb_new rdw)
open Pack (Nts)
open Lin (take_yes take_no)

/-- the one of a number, of a volume's words -/
def gi (W : List Nat) (n m s i : Nat) : Option Cl := one (fw W (16 + m * 8)) n s (Ino.dec (rdw W (16 + 8 * i) 8))
theorem fw_may {W : List Nat} {b : Nat} : ∀ i x c q, fw W b i = some (x, c, q) → Slo.may (x : Int) (c : Int) (Slo.nx q) = true := fun _ _ _ _ h => (Slo.dec_some h).1
theorem gi_ok {W : List Nat} {n m s i : Nat} {c : Cl} (h : gi W n m s i = some c) : Ok (fw W (16 + m * 8)) n s c := one_ok h fun _ _ _ hd => (Ino.dec_some hd).1
theorem prt_nat (s z : Nat) (hs : 0 < s) : Geo.prt (z : Int) (s : Int) = ((need s z : Nat) : Int) := by
  have h1 := Nat.div_add_mod z s
  have h2 := Nat.mod_lt z hs
  have key : ∀ c, c = z / s + (if z % s = 0 then 0 else 1) → c = need s z := fun c hc => (need_iff hs).2 (by
    have h3 : z / s * s + z % s = z := by rw [Nat.mul_comm]; exact h1
    generalize z / s = d at *
    generalize z % s = r at *
    subst hc
    by_cases h0 : r = 0
    · rw [if_pos h0, Nat.add_zero]
      refine ⟨by omega, fun e he => ?_⟩
      have h4 : (e + 1) * s ≤ d * s := Nat.mul_le_mul_right s (by omega)
      rw [Nat.add_mul] at h4
      omega
    · rw [if_neg h0, Nat.add_mul]
      refine ⟨by omega, fun e he => ?_⟩
      have h4 : e * s ≤ d * s := Nat.mul_le_mul_right s (by omega)
      omega)
  have h5 := key _ rfl
  rw [← h5]
  unfold Geo.prt
  by_cases h0 : z % s = 0
  · rw [if_pos h0, if_pos (by omega)]
    omega
  · rw [if_neg h0, if_neg (by omega)]
    omega
theorem hd0 (W : World) : Below W.heap.size W W.drew := ⟨rfl, rfl, rfl, Nat.le_refl _, fun _ _ => rfl⟩
/-- what take leaves -/
def TkTo (W : List Nat) (n m s : Nat) (P : Pc) (L : List Cl) (w : World) (r : Ending) (w' : World) : Prop :=
  (add L (gi W n m s L.length) = none ∧ r = .returned (.bool false) ∧ Below P.lo w w') ∨
  (∃ c N C X, gi W n m s L.length = some c ∧ (sl L ++ sls c.l).Nodup ∧ (bl L ++ blk c.l).Nodup ∧ r = .returned (.bool true) ∧ Cq w' P n m (L ++ [c]) N C X ∧ Below P.lo w w')
section
variable {Q : Nat → Prop} {w : World} {vb a n m s : Nat} {W : List Nat} {st sn : Nat} {P : Pc} {L : List Cl} {N C X : Array Value}
set_option maxHeartbeats 4000000 in
set_option maxRecDepth 100000 in
theorem take_any (hv : Vo Q w vb a n m s W st sn) (h : Cq w P n m L N C X) (ho : Oks (fw W (16 + m * 8)) n s L) (hi : L.length < m) :
    Calls Tryz.prog 39 #[.pointer (some ⟨P.c, 0, none⟩), .pointer (some ⟨vb, 0, none⟩), .int .i64 (L.length : Int)] w (TkTo W n m s P L w) := by
  have HI := Lib.hid (Vol.inode_yes hv L.length hi)
  have HV := Lib.hid hv
  have H := Lib.hid h
  have HO := Lib.hid ho
  have HGI := Lib.hid (show gi W n m s L.length = one (fw W (16 + m * 8)) n s (Ino.dec (rdw W (16 + 8 * L.length) 8)) from rfl)
  have HDM := Lib.hid (fun k p z (hd : Ino.dec (rdw W (16 + 8 * L.length) 8) = some (k, p, z)) => (Ino.dec_some hd).1)
  have HNB := Lib.hid (show P.lo ≤ w.heap.size by have := h.cr.ord.le; have := h.cr.lt; omega)
  clear hv h ho
  generalize Ino.dec (rdw W (16 + 8 * L.length) 8) = dc at *
  go_enter Tryz.func39, Tryz.ntmps39
  cases dc with
  | none =>
    have hI := HI.out
    simp only [Ino.gv, Ino.ev] at hI
    have HI := Lib.hid hI
    clear hI
    go_wp2_with fail
    refine HI.out.mono ?_
    rintro r w1 ⟨rfl, hb⟩
    have HB := Lib.hid (hb.alloc hb.size (.cells #[.int .i64 0, .int .i64 (-1), .int .i64 0] 58))
    go_wp2
    go_ret
    refine .inl ⟨by rw [HGI.out]; rfl, rfl, HB.out.mono HNB.out⟩
  | some t =>
    obtain ⟨k, p, z⟩ := t
    have hI := HI.out
    simp only [Ino.gv, Ino.ev] at hI
    have HI := Lib.hid hI
    have hmy := HDM.out k p z rfl
    have hlt := Ino.may_lt hmy
    obtain ⟨hd, hhd⟩ : ∃ hd : Int, hd = (p : Int) - 1 := ⟨_, rfl⟩
    rw [← hhd] at HI
    have HHD := Lib.hid hhd
    have HLT := Lib.hid hlt
    clear hI HDM hmy hlt hhd
    go_wp2_with fail
    refine HI.out.mono ?_
    rintro r w1 ⟨rfl, hb⟩
    have hal := (Below.refl w1.heap.size w1).alloc (Nat.le_refl _) (.cells #[.int .i64 (k : Int), .int .i64 hd, .int .i64 (z : Int)] 58)
    have HB2 := Lib.hid (hb.trans (hal.mono hb.size))
    have HX2 := Lib.hid (hb_new w1 #[.int .i64 (k : Int), .int .i64 hd, .int .i64 (z : Int)] 58)
    have hbs := hb.size
    clear hb hal
    have x1 := HX2.out.cell 1
    have xl := HX2.out.lt
    go_wp2_with fail
    clear x1 xl
    generalize w1.alloc (.cells #[.int .i64 (k : Int), .int .i64 hd, .int .i64 (z : Int)] 58) = w2 at *
    have HXB := Lib.hid (show P.c < w1.heap.size by have := H.out.cr.lt; have := hbs; omega)
    clear hbs
    generalize w1.heap.size = xb at *
    have HRD := Lib.hid (read_new (HV.out.keep HB2.out) hd)
    refine HRD.out.mono ?_
    intro e w3 k3
    unfold RdN at k3
    cases hr : rd (pat (fw W (16 + m * 8)) n) n hd with
    | none =>
      rw [hr] at k3
      obtain ⟨rfl, hb⟩ := k3
      have HAD := Lib.hid (show add L (gi W n m s L.length) = none by
        rw [HGI.out, one_none (by rw [← HHD.out]; exact hr)]
        rfl)
      have hal := (Below.refl w3.heap.size w3).alloc (Nat.le_refl _) (.cells #[.slice none 0 0, .slice none 0 0] 63)
      have HB4 := Lib.hid (HB2.out.trans ((hb.trans (hal.mono hb.size)).mono HB2.out.size))
      clear hb hal hr
      go_wp2_with fail
      refine wp_region_held_drew (S := (fun _ => True)) (by kernel_rfl) ?_ (fun hHeld => ?_)
      · trivial
      refine take_yes 0 25 (.int .i64 2) rfl rfl (by kernel_rfl) (by kernel_rfl) (by kernel_rfl) (fun _ _ _ h => h) rfl ?_ (by assumption) ?_
      · intro w hSw
        try dsimp only at hSw
        go_simp
      simp only [Act.put, List.setIfInBounds_toArray, List.set_cons_zero, List.set_cons_succ]
      refine take_yes 1 26 (.bool true) rfl rfl (by kernel_rfl) (by kernel_rfl) (by kernel_rfl) (fun _ _ _ h => h) rfl ?_ (by assumption) ?_
      · intro w hSw
        try dsimp only at hSw
        go_simp
      simp only [Act.put, List.setIfInBounds_toArray, List.set_cons_zero, List.set_cons_succ]
      refine take_yes 2 27 (.bool true) rfl rfl (by kernel_rfl) (by kernel_rfl) (by kernel_rfl) (fun _ _ _ h => h) rfl ?_ (by assumption) ?_
      · intro w hSw
        try dsimp only at hSw
        go_simp
      simp only [Act.put, List.setIfInBounds_toArray, List.set_cons_zero, List.set_cons_succ]
      refine take_no 3 28 rfl rfl (by kernel_rfl) (by kernel_rfl) (by kernel_rfl) (fun _ _ _ h => h) rfl (by assumption) ?_
      simp only [Act.put, List.setIfInBounds_toArray, List.set_cons_zero, List.set_cons_succ]
      refine take_no 4 29 rfl rfl (by kernel_rfl) (by kernel_rfl) (by kernel_rfl) (fun _ _ _ h => h) rfl (by assumption) ?_
      simp only [Act.put, List.setIfInBounds_toArray, List.set_cons_zero, List.set_cons_succ]
      refine take_no 5 30 rfl rfl (by kernel_rfl) (by kernel_rfl) (by kernel_rfl) (fun _ _ _ h => h) rfl (by assumption) ?_
      simp only [Act.put, List.setIfInBounds_toArray, List.set_cons_zero, List.set_cons_succ]
      refine take_no 6 31 rfl rfl (by kernel_rfl) (by kernel_rfl) (by kernel_rfl) (fun _ _ _ h => h) rfl (by assumption) ?_
      simp only [Act.put, List.setIfInBounds_toArray, List.set_cons_zero, List.set_cons_succ]
      refine take_no 7 32 rfl rfl (by kernel_rfl) (by kernel_rfl) (by kernel_rfl) (fun _ _ _ h => h) rfl (by assumption) ?_
      simp only [Act.put, List.setIfInBounds_toArray, List.set_cons_zero, List.set_cons_succ]
      refine take_no 8 33 rfl rfl (by kernel_rfl) (by kernel_rfl) (by kernel_rfl) (fun _ _ _ h => h) rfl (by assumption) ?_
      simp only [Act.put, List.setIfInBounds_toArray, List.set_cons_zero, List.set_cons_succ]
      refine take_no 9 34 rfl rfl (by kernel_rfl) (by kernel_rfl) (by kernel_rfl) (fun _ _ _ h => h) rfl (by assumption) ?_
      simp only [Act.put, List.setIfInBounds_toArray, List.set_cons_zero, List.set_cons_succ]
      refine take_no 10 35 rfl rfl (by kernel_rfl) (by kernel_rfl) (by kernel_rfl) (fun _ _ _ h => h) rfl (by assumption) ?_
      simp only [Act.put, List.setIfInBounds_toArray, List.set_cons_zero, List.set_cons_succ]
      refine take_yes 11 36 (.bool true) rfl rfl (by kernel_rfl) (by kernel_rfl) (by kernel_rfl) (fun _ _ _ h => h) rfl ?_ (by assumption) ?_
      · intro w hSw
        try dsimp only at hSw
        go_simp
      simp only [Act.put, List.setIfInBounds_toArray, List.set_cons_zero, List.set_cons_succ]
      refine wpAnyH_done (by kernel_rfl) ?_ _
      go_wp2
      go_ret
      exact .inl ⟨HAD.out, rfl, (HB4.out.trans ((hd0 _).mono HB4.out.size)).mono HNB.out⟩
    | some l =>
      rw [hr] at k3
      obtain ⟨A, ac, D, dc, rfl, hA, hD, hcap, hnw, hb⟩ := k3
      have HHR := Lib.hid hr
      have hok : ∀ x ∈ sls l, x < n := fun x hx => by
        obtain ⟨p, hp, rfl⟩ := List.mem_map.1 hx
        exact (Chn.path_mem (Chn.rd_iff.1 hr).1 p hp).1
      have hok2 : ∀ x ∈ blk l, x < n := fun x hx => by
        obtain ⟨p, hp, h1, h2⟩ := blk_mem hx
        have := (Chn.path_mem (Chn.rd_iff.1 hr).1 p hp).2.2
        omega
      have hmy : Mays l := fun p hp => (Slo.dec_some (Chn.path_mem (Chn.rd_iff.1 hr).1 p hp).2.1).1
      have hll : l.length ≤ n := (Chn.rd_iff.1 hr).2
      have HMY := Lib.hid hmy
      have HOK := Lib.hid hok
      have HOK2 := Lib.hid hok2
      have HN4 := Lib.hid H.out.cr.bm.max
      have hll := show l.length ≤ 65534 by have := HN4.out; omega
      have hal := (Below.refl w3.heap.size w3).alloc (Nat.le_refl _) (.cells #[.slice A l.length ac, .slice D l.length dc] 63)
      have hb4 := hb.trans (hal.mono hb.size)
      have HB4 := Lib.hid (HB2.out.trans (hb4.mono HB2.out.size))
      have HX4 := Lib.hid (HX2.out.keep hb4)
      have HC4 := Lib.hid (hb_new w3 #[.slice A l.length ac, .slice D l.length dc] 63)
      have HA4 := Lib.hid (hA.keep hal)
      have HD4 := Lib.hid (hD.keep hal)
      have HW := Lib.hid hnw
      have HCP := Lib.hid hcap
      have hb3s := hb.size
      clear hb hal hb4 hr hA hD hnw hcap hok hok2 hmy HX2 HRD
      go_wp2_with fail
      generalize w3.alloc (.cells #[.slice A l.length ac, .slice D l.length dc] 63) = w4 at *
      have HLBN := Lib.hid (show P.c < w3.heap.size by have := H.out.cr.lt; have := hb3s; have := HB2.out.size; omega)
      clear hb3s
      generalize w3.heap.size = lb at *
      clear w3
      have h0 := HX4.out.cell 0
      have h1 := HX4.out.cell 1
      have h2 := HX4.out.cell 2
      have xl := HX4.out.lt
      have g0 := HC4.out.cell 0
      have g1 := HC4.out.cell 1
      have gl := HC4.out.lt
      have HCT := Lib.hid (Chn.count_any w4.drew A D l.length ac dc l (HD4.out.keep (hd0 w4)) HMY.out hll)
      have hnd : Geo.need (n : Int) (m : Int) (s : Int) (z : Int) = ((need s z : Nat) : Int) := by
        rw [Geo.need_yes HV.out.may (by omega)]
        exact prt_nat _ _ (by have := HV.out.num.2.2; unfold Geo.Sz at this; omega)
      have HND := Lib.hid (fun w' => hnd ▸ Geo.need_any w' (n : Int) (m : Int) (s : Int) (z : Int) (by have := HLT.out.2.2; omega))
      clear hnd
      obtain ⟨nd, hnd⟩ : ∃ nd, nd = need s z := ⟨_, rfl⟩
      obtain ⟨tt, htt⟩ : ∃ tt, tt = tot l := ⟨_, rfl⟩
      rw [← hnd] at HND
      rw [← htt] at HCT
      have HNN := Lib.hid hnd
      have HTT := Lib.hid htt
      clear hnd htt
      by_cases heq : tt = nd
      · subst heq
        go_wp2_with fail
        go_region_held3 (fun W' => W'.cell? ⟨lb, 0, none⟩ = some (.slice A l.length ac) ∧ W'.cell? ⟨lb, 1, none⟩ = some (.slice D l.length dc) ∧ W'.cell? ⟨xb, 2, none⟩ = some (.int .i64 (z : Int))) (go_keep)
          (first
          | (go_at_call 22
             with_reducible refine HCT.out.mono ?_
             rintro r w5 ⟨rfl, hb⟩
             have HB5 := Lib.hid (HB4.out.trans (((hd0 w4).trans (hb.mono (hd0 w4).size)).mono HB4.out.size))
             have HX5 := Lib.hid (HX4.out.keep ((hd0 w4).trans (hb.mono (hd0 w4).size)))
             have HC5 := Lib.hid (HC4.out.keep ((hd0 w4).trans (hb.mono (hd0 w4).size)))
             have HA5 := Lib.hid (HA4.out.keep ((hd0 w4).trans (hb.mono (hd0 w4).size)))
             have HD5 := Lib.hid (HD4.out.keep ((hd0 w4).trans (hb.mono (hd0 w4).size)))
             have HGE := Lib.hid (Vol.geometry_any (HV.out.keep HB5.out))
             have a2 := HX5.out.cell 2
             have b0 := HC5.out.cell 0
             have b1 := HC5.out.cell 1
             clear hb)
          | (go_at_call 37
             with_reducible refine HGE.out.mono ?_
             rintro r w6 ⟨rfl, hb⟩
             have HB6 := Lib.hid (HB5.out.trans (hb.mono HB5.out.size))
             have HX6 := Lib.hid (HX5.out.keep hb)
             have HC6 := Lib.hid (HC5.out.keep hb)
             have HA6 := Lib.hid (HA5.out.keep hb)
             have HD6 := Lib.hid (HD5.out.keep hb)
             have c2 := HX6.out.cell 2
             have d0 := HC6.out.cell 0
             have d1 := HC6.out.cell 1
             clear hb)
          | (go_at_call 81
             with_reducible refine (HND.out _).mono ?_
             rintro r w7 ⟨rfl, hb⟩
             have HB7 := Lib.hid (HB6.out.trans (hb.mono HB6.out.size))
             have HX7 := Lib.hid (HX6.out.keep hb)
             have HC7 := Lib.hid (HC6.out.keep hb)
             have HA7 := Lib.hid (HA6.out.keep hb)
             have HD7 := Lib.hid (HD6.out.keep hb)
             have e2 := HX7.out.cell 2
             have i0 := HC7.out.cell 0
             have i1 := HC7.out.cell 1
             clear hb))
        clear h0 h1 h2 xl g0 g1 gl a2 b0 b1 c2 d0 d1 HX5 HC5 HA5 HD5 HX6 HC6 HA6 HD6 HX4 HC4 HA4 HD4 HCT HND HGE
        have hq := (H.out.keep HB7.out).cr
        have q0 := hq.claim.cell 0
        have q1 := hq.claim.cell 1
        have ql := hq.lt
        have hsn := hq.sn
        have hsc := hq.sc
        obtain ⟨u0, n0⟩ : ∃ v, w7.cell? ⟨P.nb, L.length * 3, none⟩ = some v := ⟨_, (hq.nodes.cell (L.length * 3)).trans (Array.getElem?_eq_getElem (by omega))⟩
        obtain ⟨u1, n1⟩ : ∃ v, w7.cell? ⟨P.nb, L.length * 3 + 1, none⟩ = some v := ⟨_, (hq.nodes.cell (L.length * 3 + 1)).trans (Array.getElem?_eq_getElem (by omega))⟩
        obtain ⟨u2, n2⟩ : ∃ v, w7.cell? ⟨P.nb, L.length * 3 + 2, none⟩ = some v := ⟨_, (hq.nodes.cell (L.length * 3 + 2)).trans (Array.getElem?_eq_getElem (by omega))⟩
        obtain ⟨u3, c0⟩ : ∃ v, w7.cell? ⟨P.cb, L.length * 2, none⟩ = some v := ⟨_, (hq.chains.cell (L.length * 2)).trans (Array.getElem?_eq_getElem (by omega))⟩
        obtain ⟨u4, c1⟩ : ∃ v, w7.cell? ⟨P.cb, L.length * 2 + 1, none⟩ = some v := ⟨_, (hq.chains.cell (L.length * 2 + 1)).trans (Array.getElem?_eq_getElem (by omega))⟩
        have nf0 := hq.nodes.frozen (L.length * 3)
        have nf1 := hq.nodes.frozen (L.length * 3 + 1)
        have nf2 := hq.nodes.frozen (L.length * 3 + 2)
        have cf0 := hq.chains.frozen (L.length * 2)
        have cf1 := hq.chains.frozen (L.length * 2 + 1)
        have nl := hq.nodes.lt
        have chl := hq.chains.lt
        have hm := hq.max
        have x0 := HX7.out.cell 0
        have x1 := HX7.out.cell 1
        have x2 := HX7.out.cell 2
        have xl := HX7.out.lt
        have ll := HC7.out.lt
        have hne1 : ¬ P.nb = P.cb := hq.ord.ne.1
        have hne2 : ¬ P.cb = P.nb := Ne.symm hq.ord.ne.1
        have HLB := Lib.hid (show xb ≠ P.nb ∧ xb ≠ P.cb ∧ lb ≠ P.nb ∧ lb ≠ P.cb by have := HXB.out; have := HLBN.out; have := hq.ord.lt; omega)
        have hx1 := HLB.out.1
        have hx2 := HLB.out.2.1
        have hx3 := HLB.out.2.2.1
        have hx4 := HLB.out.2.2.2
        clear hq hsn hsc
        go_wp2_with fail
        go_region
        go_wp2_with fail
        have hor := And.intro H.out.cr.ord.le H.out.cr.ord.lt
        have hcr8 := ((((((H.out.keep HB7.out).cr.set_n (L.length * 3) (.int .i64 (k : Int))).set_n (L.length * 3 + 1) (.int .i64 hd)).set_n (L.length * 3 + 2) (.int .i64 (z : Int))).set_c (L.length * 2) (.slice A l.length ac)).set_c (L.length * 2 + 1) (.slice D l.length dc)).keep (hd0 _)
        have hfr8 := ((((((Fr.refl (P.c + 1) w7).set (a := ⟨P.nb, L.length * 3, none⟩) (by show P.nb < P.c + 1; omega) (.int .i64 (k : Int))).set (a := ⟨P.nb, L.length * 3 + 1, none⟩) (by show P.nb < P.c + 1; omega) (.int .i64 hd)).set (a := ⟨P.nb, L.length * 3 + 2, none⟩) (by show P.nb < P.c + 1; omega) (.int .i64 (z : Int))).set (a := ⟨P.cb, L.length * 2, none⟩) (by show P.cb < P.c + 1; omega) (.slice A l.length ac)).set (a := ⟨P.cb, L.length * 2 + 1, none⟩) (by show P.cb < P.c + 1; omega) (.slice D l.length dc)).trans (fr_below (hd0 _))
        have hbl8 := ((((((HB7.out.mono HNB.out).setCell (p := ⟨P.nb, L.length * 3, none⟩) hor.1.1 (.int .i64 (k : Int))).setCell (p := ⟨P.nb, L.length * 3 + 1, none⟩) hor.1.1 (.int .i64 hd)).setCell (p := ⟨P.nb, L.length * 3 + 2, none⟩) hor.1.1 (.int .i64 (z : Int))).setCell (p := ⟨P.cb, L.length * 2, none⟩) hor.1.2.1 (.slice A l.length ac)).setCell (p := ⟨P.cb, L.length * 2 + 1, none⟩) hor.1.2.1 (.slice D l.length dc)).drew
        have HR8 := Lib.hid hcr8
        have HF8 := Lib.hid hfr8
        have HB8 := Lib.hid hbl8
        clear hcr8 hfr8 hbl8 q0 q1 ql n0 n1 n2 c0 c1 nf0 nf1 nf2 cf0 cf1 nl chl x0 x1 x2 xl ll i0 i1 e2
        generalize ((((((w7.setCell ⟨P.nb, L.length * 3, none⟩ (.int .i64 (k : Int))).setCell ⟨P.nb, L.length * 3 + 1, none⟩ (.int .i64 hd)).setCell ⟨P.nb, L.length * 3 + 2, none⟩ (.int .i64 (z : Int))).setCell ⟨P.cb, L.length * 2, none⟩ (.slice A l.length ac)).setCell ⟨P.cb, L.length * 2 + 1, none⟩ (.slice D l.length dc)).drew) = w8 at *
        have hnA : New (P.c + 1) A ∧ New (P.c + 1) D := by
          have h9 : P.c + 1 ≤ w2.heap.size := by have := H.out.cr.lt; have := HB2.out.size; omega
          exact ⟨fun x e => Nat.le_trans h9 (HW.out.1 x e), fun x e => Nat.le_trans h9 (HW.out.2 x e)⟩
        have HNA := Lib.hid hnA
        have HA8 := Lib.hid (nts_fr HA7.out hnA.1 HF8.out)
        have HD8 := Lib.hid (prt_fr HD7.out hnA.2 HF8.out)
        refine (give_any HR8.out HO.out.bl HO.out.sl l A D ac dc L.length HA8.out HD8.out hnA.1 HMY.out hll HOK.out HOK2.out).mono ?_
        rintro e w9 k9
        have HGY := Lib.hid (show gi W n m s L.length = some ⟨k, p, z, l⟩ by
          rw [HGI.out, one_yes (l := l) (by rw [← HHD.out]; exact HHR.out) (by rw [← HTT.out, ← HNN.out])])
        unfold GvTo at k9
        rcases k9 with ⟨h1, rfl, h3⟩ | ⟨⟨h1, h1'⟩, rfl, X', h3, h4, h5, h6⟩
        · have HK := Lib.hid (show add L (gi W n m s L.length) = none by rw [HGY.out]; exact add_not h1)
          have HB9 := Lib.hid (HB8.out.trans h3)
          clear h1 h3
          go_wp2
          go_ret
          exact .inl ⟨HK.out, rfl, HB9.out⟩
        · have HB9 := Lib.hid (HB8.out.trans h6)
          have hf9 : Fr (P.c + 1) w7 w9 := HF8.out.trans h5
          have hf10 : Fr (P.c + 1) w w9 := (fr_below HB7.out).trans hf9
          have HQ := Lib.hid (show Cq w9 P n m (L ++ [⟨k, p, z, l⟩]) _ _ _ from
            ⟨by rw [bl_snoc, sl_snoc]; exact h3, by
              have := H.out.nod.snoc (c := ⟨k, p, z, l⟩) H.out.cr.sn hi
              simp only at this
              rw [← HHD.out] at this
              exact this, (H.out.chs.fr hf10).snoc (c := ⟨k, p, z, l⟩) H.out.cr.sc hi (nts_fr HA8.out HNA.out.1 h5) (prt_fr HD8.out HNA.out.2 h5) HCP.out HNA.out, H.out.plc.snoc (c := ⟨k, p, z, l⟩) h4 h1'⟩)
          have H1 := Lib.hid h1
          have H1' := Lib.hid h1'
          clear h1 h1' h3 h4 h5 h6 hf9 hf10
          go_wp2
          go_ret
          exact .inr ⟨⟨k, p, z, l⟩, _, _, _, HGY.out, H1.out, H1'.out, rfl, HQ.out, HB9.out⟩
      · have hne : ((tt : Int) != (nd : Int)) = true := by
          simp only [bne_iff_ne, ne_eq]
          omega
        have HAD := Lib.hid (show add L (gi W n m s L.length) = none by
          rw [HGI.out, one_not (l := l) (by rw [← HHD.out]; exact HHR.out) (by rw [← HTT.out, ← HNN.out]; exact heq)]
          rfl)
        clear heq
        go_wp2_with fail
        go_region_held3 (fun W' => W'.cell? ⟨lb, 0, none⟩ = some (.slice A l.length ac) ∧ W'.cell? ⟨lb, 1, none⟩ = some (.slice D l.length dc) ∧ W'.cell? ⟨xb, 2, none⟩ = some (.int .i64 (z : Int))) (go_keep)
          (first
          | (go_at_call 22
             with_reducible refine HCT.out.mono ?_
             rintro r w5 ⟨rfl, hb⟩
             have HB5 := Lib.hid (HB4.out.trans (((hd0 w4).trans (hb.mono (hd0 w4).size)).mono HB4.out.size))
             have HX5 := Lib.hid (HX4.out.keep ((hd0 w4).trans (hb.mono (hd0 w4).size)))
             have HC5 := Lib.hid (HC4.out.keep ((hd0 w4).trans (hb.mono (hd0 w4).size)))
             have HA5 := Lib.hid (HA4.out.keep ((hd0 w4).trans (hb.mono (hd0 w4).size)))
             have HD5 := Lib.hid (HD4.out.keep ((hd0 w4).trans (hb.mono (hd0 w4).size)))
             have HGE := Lib.hid (Vol.geometry_any (HV.out.keep HB5.out))
             have a2 := HX5.out.cell 2
             have b0 := HC5.out.cell 0
             have b1 := HC5.out.cell 1
             clear hb)
          | (go_at_call 37
             with_reducible refine HGE.out.mono ?_
             rintro r w6 ⟨rfl, hb⟩
             have HB6 := Lib.hid (HB5.out.trans (hb.mono HB5.out.size))
             have HX6 := Lib.hid (HX5.out.keep hb)
             have HC6 := Lib.hid (HC5.out.keep hb)
             have HA6 := Lib.hid (HA5.out.keep hb)
             have HD6 := Lib.hid (HD5.out.keep hb)
             have c2 := HX6.out.cell 2
             have d0 := HC6.out.cell 0
             have d1 := HC6.out.cell 1
             clear hb)
          | (go_at_call 81
             with_reducible refine (HND.out _).mono ?_
             rintro r w7 ⟨rfl, hb⟩
             have HB7 := Lib.hid (HB6.out.trans (hb.mono HB6.out.size))
             have HX7 := Lib.hid (HX6.out.keep hb)
             have HC7 := Lib.hid (HC6.out.keep hb)
             have HA7 := Lib.hid (HA6.out.keep hb)
             have HD7 := Lib.hid (HD6.out.keep hb)
             have e2 := HX7.out.cell 2
             have i0 := HC7.out.cell 0
             have i1 := HC7.out.cell 1
             clear hb))
        go_wp2
        go_ret
        exact .inl ⟨HAD.out, rfl, HB7.out.mono HNB.out⟩
end
end Clm
end Go.Proofs.YtilolepbfmcbgaaGreatDoor
