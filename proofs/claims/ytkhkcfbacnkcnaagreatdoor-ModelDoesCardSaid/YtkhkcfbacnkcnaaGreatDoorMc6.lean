/- Texts laid together: TrkSub, TrkRange, TrkCount, TrkIter, TrkList, PatRefJoin, TreSize, TrkSize, TreDo, TreSame, TrkAcc. -/
import Derived.Test.YtkhkcfbacnkcnaaGreatDoorMc5
import Derived.Test.YtkhkcfbacnkcnaaGreatDoorMc4
import Derived.Maps.RangeWalk
import Derived.Laws.IdiomRangeMap
import Derived.Shelf.SlIter.Nil
import Derived.Shelf.SortM.Plain
import Derived.Shelf.SortM.SortNone
import Derived.Ground.GgzProg
import Derived.Ground.SlgmProg
import Derived.Test.YtkhkcfbacnkcnaaGreatDoorProg
import Derived.Test.YtkhkcfbacnkcnaaGreatDoorMc2
import Derived.Test.YtkhkcfbacnkcnaaGreatDoorMc1
import Derived.Test.YtkhkcfbacnkcnaaGreatDoorMc3
/- What is in a directory, name by name, each with what is in it: the document's order. Of no program. -/
namespace Go.Proofs.YtkhkcfbacnkcnaaGreatDoor
open Go.RowKit Go.MapKept
namespace Trk
open Tre (Nm Th ins sorted kidL kidT allT)

/-- the thing that stands there -/
def th (t : List Th) (n : Nm) : Th := (n, (T t n).getD (false, ByteArray.empty))
theorem th_mem {t : List Th} {n : Nm} (h0 : n ≠ []) {v : Bool × ByteArray} (h : T t n = some v) : th t n ∈ t := by
  unfold th
  rw [h]
  exact T_mem h0 h
/-- what is in there, in order -/
def sb : Nat → List Th → Nm → List Th
  | 0, _, _ => []
  | k + 1, t, p => (kidT t p).flatMap fun x => th t (p ++ [x]) :: sb k t (p ++ [x])
theorem und_kid {p : Nm} {x : ByteArray} {y : Th} (h : Und (p ++ [x]) y = true) : Und p y = true := by
  obtain ⟨h1, h2⟩ := of_decide_eq_true h
  rw [List.length_append, List.length_singleton] at h1 h2
  refine decide_eq_true ⟨by omega, ?_⟩
  have := congrArg (List.take p.length) h2
  rw [List.take_take, Nat.min_eq_left (by omega), List.take_left] at this
  exact this
theorem sb_mem {t : List Th} (hW : Wf t) : ∀ (k : Nat) (p : Nm) (y : Th), 64 ≤ p.length + k → (y ∈ sb k t p ↔ y ∈ t ∧ Und p y = true)
  | 0, p, y, hk => by
    constructor
    · intro h
      simp [sb] at h
    · rintro ⟨h1, h2⟩
      have := (of_decide_eq_true h2).1
      have := (hW.nm y h1).2.1
      omega
  | k + 1, p, y, hk => by
    rw [sb, List.mem_flatMap]
    constructor
    · rintro ⟨x, hx, hy⟩
      obtain ⟨v, hv⟩ := Option.isSome_iff_exists.1 ((kidL_mem hW.once).1 ((kidT_perm t p).mem_iff.1 hx))
      rcases List.mem_cons.1 hy with rfl | hy
      · exact ⟨th_mem (by simp) hv, decide_eq_true ⟨by simp [th], by simp [th]⟩⟩
      · obtain ⟨h1, h2⟩ := (sb_mem hW k (p ++ [x]) y (by simp; omega)).1 hy
        exact ⟨h1, und_kid h2⟩
    · rintro ⟨h1, h2⟩
      obtain ⟨hl, ht⟩ := of_decide_eq_true h2
      have hw : way p y = some (y.1[p.length]'hl) := by
        unfold way
        rw [if_pos h2, List.getElem?_eq_getElem hl]
      have e1 := way_und.1 hw
      have hTy := mem_T hW.once h1 (hW.nm y h1).1
      have hT1 : ∃ v, T t (p ++ [y.1[p.length]'hl]) = some v := by
        rw [← e1]
        rcases Nat.lt_or_ge (p.length + 1) y.1.length with h | h
        · obtain ⟨s, hs⟩ := wf_take hW 0 y.1.length y.2 (by omega) (Nat.le_refl _) (by rw [List.take_length]; exact hTy) (p.length + 1) h
          exact ⟨_, hs⟩
        · exact ⟨_, by rw [List.take_of_length_le h]; exact hTy⟩
      obtain ⟨v, hv⟩ := hT1
      refine ⟨y.1[p.length]'hl, (kidT_perm t p).mem_iff.2 ((kidL_mem hW.once).2 (by rw [hv]; rfl)), ?_⟩
      rcases Nat.lt_or_ge (p.length + 1) y.1.length with h | h
      · refine List.mem_cons.2 (.inr ((sb_mem hW k _ y (by simp; omega)).2 ⟨h1, ?_⟩))
        exact decide_eq_true ⟨by simpa using h, by rw [List.length_append, List.length_singleton]; exact e1⟩
      · rw [List.take_of_length_le h] at e1
        refine List.mem_cons.2 (.inl ?_)
        rw [← e1] at hv ⊢
        unfold th
        rw [hTy]
        rfl
theorem bef_app : ∀ (p a b : Nm), Pat.bef (p ++ a) (p ++ b) = Pat.bef a b
  | [], _, _ => rfl
  | x :: p, a, b => by
    rw [List.cons_append, List.cons_append, Pat.bef, if_pos rfl]
    exact bef_app p a b
theorem bef_tr : ∀ (a b c : Nm), Pat.bef a b = true → Pat.bef b c = true → Pat.bef a c = true
  | a, b, [], _, h2 => by
    cases b <;> simp [Pat.bef] at h2
  | [], _, _ :: _, _, _ => by simp [Pat.bef]
  | x :: a, [], z :: c, h1, _ => by simp [Pat.bef] at h1
  | x :: a, y :: b, z :: c, h1, h2 => by
    rw [Pat.bef] at *
    by_cases e1 : x = y
    · subst e1
      rw [if_pos rfl] at h1
      by_cases e2 : x = z
      · rw [if_pos e2] at h2 ⊢
        exact bef_tr a b c h1 h2
      · rw [if_neg e2] at h2 ⊢
        exact h2
    · rw [if_neg e1] at h1
      by_cases e2 : y = z
      · subst e2
        rw [if_neg e1]
        exact h1
      · rw [if_neg e2] at h2
        have h3 := less_tr _ _ _ h1 h2
        rw [if_neg (fun e => by rw [e] at h1; exact less_as _ _ h1 h2)]
        exact h3
theorem ahead_as (a b : Th) (h1 : Tre.ahead a b = true) (h2 : Tre.ahead b a = true) : False := by
  unfold Tre.ahead at *
  have := bef_tr _ _ _ h1 h2
  rw [Pat.bef_irr] at this
  cases this
theorem und_split {p : Nm} {x : ByteArray} {y : Th} (h : y.1 = p ++ [x] ∨ Und (p ++ [x]) y = true) : ∃ r, y.1 = p ++ x :: r := by
  rcases h with h | h
  · exact ⟨[], h⟩
  · obtain ⟨_, h2⟩ := of_decide_eq_true h
    refine ⟨y.1.drop (p ++ [x]).length, ?_⟩
    have := List.take_append_drop (p ++ [x]).length y.1
    rw [h2] at this
    rw [← this]
    simp
theorem sb_pw {t : List Th} (hW : Wf t) : ∀ (k : Nat) (p : Nm), 64 ≤ p.length + k → (sb k t p).Pairwise (fun a b => Tre.ahead a b = true)
  | 0, p, _ => by simp [sb]
  | k + 1, p, hk => by
    rw [sb, List.pairwise_flatMap]
    refine ⟨fun x hx => ?_, ?_⟩
    · refine List.pairwise_cons.2 ⟨fun y hy => ?_, sb_pw hW k _ (by simp; omega)⟩
      obtain ⟨_, h2⟩ := (sb_mem hW k (p ++ [x]) y (by simp; omega)).1 hy
      obtain ⟨h3, h4⟩ := of_decide_eq_true h2
      have e := List.take_append_drop (p ++ [x]).length y.1
      rw [h4] at e
      unfold Tre.ahead th
      simp only
      rw [← e]
      have hb := bef_app (p ++ [x]) [] (y.1.drop (p ++ [x]).length)
      rw [List.append_nil] at hb
      rw [hb]
      cases hd : y.1.drop (p ++ [x]).length with
      | nil =>
        have := congrArg List.length hd
        rw [List.length_drop] at this
        simp only [List.length_nil] at this
        omega
      | cons z r => rfl
    · refine (kidT_pw hW.once p).imp fun {x1 x2} hlt => ?_
      intro a ha b hb
      have key : ∀ (x : ByteArray) (y : Th), y ∈ th t (p ++ [x]) :: sb k t (p ++ [x]) → ∃ r, y.1 = p ++ x :: r := fun x y hy => by
        rcases List.mem_cons.1 hy with rfl | hy
        · exact und_split (.inl rfl)
        · exact und_split (.inr ((sb_mem hW k (p ++ [x]) y (by simp; omega)).1 hy).2)
      obtain ⟨r1, e1⟩ := key x1 a ha
      obtain ⟨r2, e2⟩ := key x2 b hb
      unfold Tre.ahead
      rw [e1, e2, bef_app, Pat.bef, if_neg (fun e => by rw [e, Pat.less_irr] at hlt; cases hlt)]
      exact hlt
theorem once_pw {t : List Th} (h : Once t) : t.Pairwise (fun a b => Tre.ahead a b = true ∨ Tre.ahead b a = true) := by
  refine (List.pairwise_map.1 h).imp fun {a b} hne => ?_
  unfold Tre.ahead
  have := Pat.bef_tot _ _ hne
  cases hb : Pat.bef b.1 a.1 with
  | true => exact .inr rfl
  | false => rw [hb] at this; exact .inl (by simpa using this)
/-- all of it -/
theorem sb_all {t : List Th} (hW : Wf t) {k : Nat} (hk : 64 ≤ k) : sb k t [] = allT t := by
  have hp := sb_pw hW k [] (by simpa using hk)
  have hnd : (sb k t []).Nodup := hp.imp fun {a b} h e => by
    subst e
    unfold Tre.ahead at h
    rw [Pat.bef_irr] at h
    cases h
  have htn : t.Nodup := (List.pairwise_map.1 hW.once).imp fun h e => h (by rw [e])
  have hperm : (sb k t []).Perm t := (List.perm_ext_iff_of_nodup hnd htn).2 fun y => by
    rw [sb_mem hW k [] y (by simpa using hk)]
    refine ⟨fun h => h.1, fun h => ⟨h, decide_eq_true ⟨?_, rfl⟩⟩⟩
    exact List.length_pos_iff.2 (hW.nm y h).1
  refine one_of ahead_as (hperm.trans (sorted_perm t).symm) hp (sorted_pw (lt := Tre.ahead) (fun a b c h1 h2 => bef_tr a.1 b.1 c.1 h1 h2) t (once_pw hW.once))
end Trk
end Go.Proofs.YtkhkcfbacnkcnaaGreatDoor
/- A directory's map, name by name, in whatever order. -/
namespace Go.Proofs.YtkhkcfbacnkcnaaGreatDoor
open Go.RowKit Go.MapKept
namespace Trk
open Tre (Nm Th fi goT kidL)

/-- under way: these names are still to come -/
structure Rg (w : World) (g r N : Nat) (f : ByteArray → Option Nat) (D : DataW Unit) (ks : List ByteArray) (cnt : Nat) : Prop where
  ask : Ask w g N f D
  rgs : ∃ left, w.ranges Tryz.prog 9 Rp g r N D left cnt ∧ (∀ x, left (.string x.data.toList) = true ↔ x ∈ ks)
  once : ks.Nodup
  rlt : r < w.heap.size
  ne : r ≠ g
theorem Rg.keep {w w' : World} {g r N : Nat} {f : ByteArray → Option Nat} {D : DataW Unit} {ks : List ByteArray} {cnt : Nat} (h : Rg w g r N f D ks cnt) (hb : Below w.heap.size w w') : Rg w' g r N f D ks cnt := by
  obtain ⟨left, h1, h2⟩ := h.rgs
  have hg : w.grownBy w' none := ⟨hb.os, hb.tape, hb.output, hb.size, fun k hk _ => hb.block k hk⟩
  exact ⟨h.ask.block (hb.block g h.ask.own.lt), ⟨left, h1.kept hg (by simp) (by simp), h2⟩, h.once, Nat.lt_of_lt_of_le h.rlt hb.size, h.ne⟩
theorem list_of {x : List UInt8} : x = (⟨x.toArray⟩ : ByteArray).data.toList := by simp
theorem range_run {w : World} {g N : Nat} {f : ByteArray → Option Nat} {D : DataW Unit} (h : Ask w g N f D) {ks : List ByteArray} (hk : ks.Nodup) (hm : ∀ x, x ∈ ks ↔ (f x).isSome = true) (hl : ∀ x ∈ ks, x.size ≤ maxLen) :
    ∃ w' cnt, (Instr.range 74 (.map (some g))).run Tryz.prog w = .ok (.pointer (some ⟨w.heap.size, 0, none⟩)) w' ∧ Rg w' g w.heap.size N f D ks cnt ∧ Below w.heap.size w w' := by
  obtain ⟨w', hr, h1, h2, h3⟩ := h.own.range keyed Tryz.underlying74
  have hb : Below w.heap.size w w' := ⟨h2.os, h2.tape, h2.output, h2.size, fun k hk => h2.block k hk (by simp)⟩
  have hgl := h.own.lt
  refine ⟨w', _, hr, ⟨h.block (hb.block g hgl), ⟨_, h1, fun x => ?_⟩, hk, by omega, by omega⟩, hb⟩
  constructor
  · intro hx
    obtain ⟨es, hD, hpw, _⟩ := h.own.entries keyed
    have hxs : x.data.toList ∈ strKeys D := by
      subst hD
      rw [Maps.has_eq, List.any_eq_true] at hx
      obtain ⟨p, hp, e⟩ := hx
      exact List.mem_map.2 ⟨p, hp, by rw [WideAt.sameKey_eq e]; rfl⟩
    have hxl := strKeys_le h.own Tryz.underlying9 _ hxs
    rw [hm, ← h.has x (by simpa using hxl)]
    exact hx
  · intro hx
    rw [h.has x (hl x hx)]
    exact (hm x).1 hx
/-- all but one -/
def but (ks : List ByteArray) (x : ByteArray) : List ByteArray := ks.filter fun y => decide (y ≠ x)
theorem but_mem {ks : List ByteArray} {x z : ByteArray} : z ∈ but ks x ↔ z ≠ x ∧ z ∈ ks := by
  unfold but
  rw [List.mem_filter, decide_eq_true_iff]
  exact And.comm
theorem but_perm {ks : List ByteArray} {x : ByteArray} (h : ks.Nodup) (hx : x ∈ ks) : ks.Perm (x :: but ks x) := by
  refine (List.perm_ext_iff_of_nodup h (List.nodup_cons.2 ⟨fun e => (but_mem.1 e).1 rfl, h.sublist List.filter_sublist⟩)).2 fun z => ?_
  rw [List.mem_cons, but_mem]
  constructor
  · intro hz
    by_cases e : z = x
    · exact .inl e
    · exact .inr ⟨e, hz⟩
  · rintro (rfl | ⟨_, hz⟩)
    · exact hx
    · exact hz
theorem but_sum {ks : List ByteArray} {x : ByteArray} (h : ks.Nodup) (hx : x ∈ ks) (F : ByteArray → Nat) : (ks.map F).sum = F x + ((but ks x).map F).sum := by
  have := ((but_perm h hx).map F).sum_nat
  rw [this, List.map_cons, List.sum_cons]
set_option maxRecDepth 100000 in
/-- the step -/
theorem next_run {w : World} {g r N : Nat} {f : ByteArray → Option Nat} {D : DataW Unit} {ks : List ByteArray} {cnt : Nat} (h : Rg w g r N f D ks cnt) (ty : TypeId) :
    (ks = [] ∧ (Instr.next (.pointer (some ⟨r, 0, none⟩)) false ty).run Tryz.prog w = .ok (.tuple #[.bool false]) w) ∨
    ∃ x c w' cnt', x ∈ ks ∧ f x = some c ∧ (Instr.next (.pointer (some ⟨r, 0, none⟩)) false ty).run Tryz.prog w = .ok (.tuple #[.bool true, .string x, .pointer (some ⟨c, 0, none⟩)]) w' ∧ Rg w' g r N f D (but ks x) cnt' ∧ cnt' < cnt ∧ w.grownBy w' (some r) ∧
      w'.heap.size = w.heap.size ∧ (Instr.entry (.pointer (some ⟨r, 0, none⟩))).run Tryz.prog w' = .ok (.tuple #[.string x, .pointer (some ⟨c, 0, none⟩)]) w' := by
  obtain ⟨left, h1, h2⟩ := h.rgs
  rcases h1.next keyed ty with ⟨h0, hl, hrun⟩ | ⟨key, v, kl, y, w', cnt', hkey, hlk, hv, hat, hrun, hrg, hlt, hgr, hsz, hen⟩
  · left
    refine ⟨?_, hrun⟩
    cases ks with
    | nil => rfl
    | cons x ks =>
      have := (h2 x).2 (by simp)
      rw [hl] at this
      cases this
  · right
    obtain ⟨z, hz1, hz2, hz3⟩ := Maps.keyOf_str Tryz.underlying9 hkey
    obtain ⟨x, rfl⟩ : ∃ x : ByteArray, z = x.data.toList := ⟨⟨z.toArray⟩, by simp⟩
    subst hz2
    have hkx : key = .string x := by
      first | exact hz1 | (rw [hz1]; rfl) | simpa using hz1
    subst hkx
    have hx : x ∈ ks := (h2 x).1 hlk
    have hxs : x.size ≤ maxLen := by simpa using hz3
    have hask := h.ask.ask x hxs
    have hhas := h.ask.has x hxs
    rw [Maps.has_true_of_atKey hat] at hhas
    obtain ⟨c, hc⟩ := Option.isSome_iff_exists.1 hhas.symm
    rw [hc, hat] at hask
    have hvc : v = .pointer (some ⟨c, 0, none⟩) := rp_inv (o := some c) (ps := y.2) (by rw [hv]; exact congrArg some (Prod.ext hask rfl))
    subst hvc
    have hgb : w'.heap[g]? = w.heap[g]? := hgr.block g h.ask.own.lt (fun e => h.ne (Option.some.inj e).symm)
    refine ⟨x, c, w', cnt', hx, hc, hrun, ⟨h.ask.block hgb, ⟨_, hrg, fun z => ?_⟩, h.once.sublist List.filter_sublist, by rw [hsz]; exact h.rlt, h.ne⟩, hlt, hgr, hsz, hen⟩
    rw [but_mem, Bool.and_eq_true, h2 z]
    constructor
    · rintro ⟨hz, hs⟩
      refine ⟨fun e => ?_, hz⟩
      subst e
      simp [Lit.sameKey] at hs
    · rintro ⟨hne, hz⟩
      refine ⟨hz, ?_⟩
      rw [Maps.sameKey_ne (fun e => hne (data_inj (by injection e)))]
      rfl
end Trk
end Go.Proofs.YtkhkcfbacnkcnaaGreatDoor
/- The program's Count. -/
namespace Go.Proofs.YtkhkcfbacnkcnaaGreatDoor
open Go.RowKit Go.MapKept
namespace Trk
open Tre (Nm Th fi goT kidL)

theorem kids_of {t : List Th} {L : Nm → Nd} {p : Nm} (hW : Wf t) : (∀ x, x ∈ kidL t p ↔ (kb t L p x).isSome = true) ∧ ∀ x ∈ kidL t p, x.size ≤ maxLen :=
  ⟨fun y => by rw [kidL_mem hW.once]; unfold kb; cases T t (p ++ [y]) <;> simp, fun y hy => kid_size hW ((kidL_mem hW.once).1 hy)⟩
theorem kb_at {t : List Th} {L : Nm → Nd} {p : Nm} {x : ByteArray} {c : Nat} (h : kb t L p x = some c) : c = (L (p ++ [x])).b ∧ ∃ v, T t (p ++ [x]) = some v := by
  unfold kb at h
  cases hv : T t (p ++ [x]) with
  | none => rw [hv] at h; cases h
  | some v =>
    rw [hv] at h
    injection h with h
    exact ⟨h.symm, v, rfl⟩

set_option maxRecDepth 100000 in
set_option maxHeartbeats 1000000 in
theorem count_step (w : World) (N : Nat) (t : List Th) (L : Nm → Nd) (p : Nm) (v : Bool × ByteArray) (hM : Mem w N t L) (hW : Wf t) (hl : t.length ≤ 1000000) (hv : T t p = some v)
    (rec : ∀ x ∈ kidL t p, ∀ W, Mem W N t L → Calls Tryz.prog 48 #[.pointer (some ⟨(L (p ++ [x])).b, 0, none⟩)] W fun e w' => e = .returned (.int .i64 (cn t (p ++ [x]) : Int)) ∧ Below W.heap.size W w') :
    Calls Tryz.prog 48 #[.pointer (some ⟨(L p).b, 0, none⟩)] w fun e w' => e = .returned (.int .i64 (cn t p : Int)) ∧ Below w.heap.size w w' := by
  have HM := Lib.hid hM
  have HW := Lib.hid hW
  have HN := hM.nod _ _ _ hv
  have h2 := HN.c2
  have hk := HN.map
  have HREC := Lib.hid rec
  have HS := Lib.hid (cn_kids hW p)
  have hcn : cn t p ≤ 1000001 := by
    unfold cn
    have := List.countP_le_length (l := t) (p := Und p)
    omega
  clear hM HN rec
  cases hm : (L p).m with
  | none =>
    rw [hm] at h2 hk
    have h0 : kidL t p = [] := by
      cases hl' : kidL t p with
      | nil => rfl
      | cons y r =>
        have := ((kids_of (L := L) hW).1 y).1 (show y ∈ kidL t p by rw [hl']; simp)
        rw [hk y] at this
        cases this
    have hrg := run_range_nilMap (P := Tryz.prog) w 74 _ _ Tryz.underlying74
    have hnx := fun ty => run_next_nilMap (P := Tryz.prog) w ty 0 0 #[]
    have H1 := Lib.hid (show cn t p = 1 by rw [HS.out, h0]; rfl)
    clear hk
    generalize L p = x at *
    go_enter Tryz.func48, Tryz.ntmps48
    go_wp2_with fail
    go_loopw [3] (fun c wr => c = .int .i64 1 ∧ wr = w.alloc (.mapIter none 0 #[] 0)) (fun _ _ => 0)
    case atStart => exact ⟨rfl, rfl⟩
    case round =>
      obtain ⟨rfl, rfl⟩ := hrel
      go_wp2
      go_ret
      exact ⟨by rw [H1.out]; rfl, (Below.refl _ _).alloc (Nat.le_refl _) _⟩
  | some g =>
    rw [hm] at h2 hk
    obtain ⟨D, hD⟩ := hk
    obtain ⟨w1, cnt0, hrg, hR, hb1⟩ := range_run hD (kidL_once hW.once p) (kids_of hW).1 (kids_of (L := L) hW).2
    have HR := Lib.hid hR
    have HB1 := Lib.hid hb1
    obtain ⟨r, hr⟩ : ∃ r, r = w.heap.size := ⟨_, rfl⟩
    rw [← hr] at hrg HR
    have HRR := Lib.hid hr
    clear hD hR hb1 hr
    generalize hx : L p = x at *
    go_enter Tryz.func48, Tryz.ntmps48
    go_wp2_with fail
    go_loopw [3] (fun c wr => ∃ (n cnt : Nat) (ks : List ByteArray), c = .int .i64 (n : Int) ∧ Rg wr g r N (kb t L p) D ks cnt ∧ (∀ z ∈ ks, z ∈ kidL t p) ∧ n + (ks.map fun z => cn t (p ++ [z])).sum = cn t p ∧ Below w.heap.size w wr) (fun _ wr => wr.rangeLeft g r)
    case atStart => exact ⟨1, cnt0, kidL t p, rfl, HR.out, fun z hz => hz, HS.out.symm, HB1.out⟩
    case round =>
      obtain ⟨n, cnt, ks, rfl, hR, hks, hsum, hbw⟩ := hrel
      rcases next_run hR 0 with ⟨h0, hnx⟩ | ⟨z, c, w2, cnt', hz, hc, hnx, hR2, hlt, hgr, hsz, hen⟩
      · have HE := Lib.hid (show n = cn t p by rw [h0] at hsum; simpa using hsum)
        have HBW := Lib.hid hbw
        clear hR hks hsum hbw h0
        go_wp2
        go_ret
        exact ⟨by rw [HE.out]; rfl, HBW.out⟩
      · obtain ⟨rfl, v2, hv2⟩ := kb_at hc
        have hzk := hks z hz
        have hbs := but_sum hR.once hz (fun z => cn t (p ++ [z]))
        have hcz : cn t (p ++ [z]) ≤ cn t p := by omega
        have hnz : n + cn t (p ++ [z]) ≤ 1000001 := by omega
        have hb2 : Below w.heap.size w w2 := ⟨hgr.os.trans hbw.os, hgr.tape.trans hbw.tape, hgr.output.trans hbw.output, Nat.le_trans hbw.size hgr.size, fun i hi => (hgr.block i (Nat.lt_of_lt_of_le hi hbw.size) (fun e => by injection e with e; have := HRR.out; omega)).trans (hbw.block i hi)⟩
        have HC := Lib.hid (HREC.out z hzk w2 (HM.out.keep hb2))
        have HR2 := Lib.hid hR2
        have HB2 := Lib.hid hb2
        have HSUM := Lib.hid (show n + cn t (p ++ [z]) + ((but ks z).map fun z => cn t (p ++ [z])).sum = cn t p by omega)
        have HKS := Lib.hid (show ∀ y ∈ but ks z, y ∈ kidL t p from fun y hy => hks y (but_mem.1 hy).2)
        have HLT := Lib.hid (show cnt' < wr.rangeLeft g r by obtain ⟨left, h1, _⟩ := hR.rgs; rw [h1.left_eq]; exact hlt)
        clear hR hks hsum hbw hbs hR2 hb2 hlt hgr hz hzk hc hv2 hsz hcz
        generalize cn t (p ++ [z]) = m at *
        generalize (L (p ++ [z])).b = c at *
        go_wp2_with fail
        refine HC.out.mono ?_
        rintro e w3 ⟨rfl, hb3⟩
        have HR3 := Lib.hid (HR2.out.keep hb3)
        have HB3 := Lib.hid (HB2.out.trans (hb3.mono HB2.out.size))
        clear hb3
        go_wp2
        refine ⟨⟨n + m, cnt', but ks z, by go_num, HR3.out, HKS.out, HSUM.out, HB3.out⟩, ?_⟩
        have := HLT.out
        obtain ⟨left, h1, _⟩ := HR3.out.rgs
        rw [h1.left_eq]
        exact this

theorem count_any : ∀ (k : Nat) (w : World) (N : Nat) (t : List Th) (L : Nm → Nd) (p : Nm) (v : Bool × ByteArray), Mem w N t L → Wf t → t.length ≤ 1000000 → T t p = some v → 64 ≤ p.length + k →
    Calls Tryz.prog 48 #[.pointer (some ⟨(L p).b, 0, none⟩)] w fun e w' => e = .returned (.int .i64 (cn t p : Int)) ∧ Below w.heap.size w w' := by
  intro k
  induction k with
  | zero =>
    intro w N t L p v hM hW hl hv hk
    refine count_step w N t L p v hM hW hl hv (fun x hx W hMW => ?_)
    obtain ⟨u, hu⟩ := Option.isSome_iff_exists.1 ((kidL_mem hW.once).1 hx)
    have := (hW.nm _ (T_mem (by simp) hu)).2.1
    simp at this
    omega
  | succ k ih =>
    intro w N t L p v hM hW hl hv hk
    refine count_step w N t L p v hM hW hl hv (fun x hx W hMW => ?_)
    obtain ⟨u, hu⟩ := Option.isSome_iff_exists.1 ((kidL_mem hW.once).1 hx)
    exact ih W N t L (p ++ [x]) u hMW hW hl hu (by simp; omega)
set_option maxRecDepth 100000 in
theorem Count_any (w : World) (N b0 : Nat) (t : List Th) (L : Nm → Nd) (hM : Mem w N t L) (hb : (L []).b = b0) (hW : Wf t) (hl : t.length ≤ 1000000) :
    Calls Tryz.prog 15 #[.pointer (some ⟨b0, 0, none⟩)] w fun e w' => e = .returned (.int .i64 ((t.length : Int) + 1)) ∧ Below w.heap.size w w' := by
  have HC := Lib.hid (count_any 64 w N t L [] _ hM hW hl (T_root t) (by simp))
  rw [hb, cn_root hW] at HC
  go_enter Tryz.func15, Tryz.ntmps15
  go_wp2_with fail
  refine HC.out.mono ?_
  rintro e w' ⟨rfl, hb'⟩
  have HB := Lib.hid hb'
  clear hb'
  go_wp2
  go_ret
  exact ⟨rfl, HB.out⟩
end Trk
end Go.Proofs.YtkhkcfbacnkcnaaGreatDoor
/- The library's bodies (maps.Keys, slices.Sorted, slices.Sort) as they stand in this program, in plain words. -/
namespace Go.Proofs
open Go.Shelf
def Tryz.keysA_ren : Go.Shelf.Ren := ⟨fun | 7 => 94 | 10 => 106 | n => n, fun | 23 => 74 | 26 => 9 | 3 => 96 | 28 => 143 | 0 => 0 | 27 => 142 | 33 => 127 | 4 => 4 | n => n, fun | n => n⟩
theorem Tryz.keysA : Go.Proofs.SlLaysZ.n7 Tryz.prog Tryz.keysA_ren := {
  mixed := by kernel_rfl
  f7 := ⟨Tryz.f94.name, by decide, Tryz.func94.trans (congrArg some (by kernel_rfl))⟩
  f10 := ⟨Tryz.f106.name, by decide, Tryz.func106.trans (congrArg some (by kernel_rfl))⟩
  t0 := Tryz.underlying0
  a0 := Tryz.isAgg0
  z0 := Tryz.sizeOf0
  v0 := Tryz.zeroValue0
  t4 := Tryz.underlying4
  a4 := Tryz.isAgg4
  z4 := Tryz.sizeOf4
  v4 := Tryz.zeroValue4
  t23 := Tryz.underlying74
  a23 := Tryz.isAgg74
  z23 := Tryz.sizeOf74
  v23 := Tryz.zeroValue74
  t26 := Tryz.underlying9
  a26 := Tryz.isAgg9
  z26 := Tryz.sizeOf9
  v26 := Tryz.zeroValue9
  t27 := Tryz.underlying142
  a27 := Tryz.isAgg142
  z27 := Tryz.sizeOf142
  v27 := Tryz.zeroValue142
  t28 := Tryz.underlying143
  a28 := Tryz.isAgg143
  z28 := Tryz.sizeOf143
  v28 := Tryz.zeroValue143
  t33 := Tryz.underlying127
  a33 := Tryz.isAgg127
  z33 := Tryz.sizeOf127
  v33 := Tryz.zeroValue127 }
def Tryz.sortedA_ren : Go.Shelf.Ren := ⟨fun | 6 => 93 | 8 => 104 | 9 => 105 | 11 => 116 | 13 => 118 | 12 => 117 | 23 => 134 | 24 => 135 | 14 => 125 | 15 => 126 | 16 => 127 | 17 => 128 | 18 => 129 | 19 => 130 | 20 => 131 | 21 => 132 | 22 => 133 | 25 => 143 | 26 => 144 | 27 => 145 | 28 => 146 | 29 => 147 | 30 => 148 | 31 => 151 | n => n, fun | 26 => 9 | 28 => 143 | 24 => 33 | 0 => 0 | 3 => 3 | 37 => 172 | 48 => 149 | 50 => 187 | 4 => 4 | 40 => 179 | 39 => 178 | 45 => 183 | 5 => 5 | 9 => 9 | 51 => 192 | 55 => 196 | 57 => 204 | 58 => 115 | 33 => 127 | n => n, fun | n => n⟩
theorem Tryz.sortedA : Go.Proofs.SlLaysZ.n6 Tryz.prog Tryz.sortedA_ren := {
  mixed := by kernel_rfl
  f6 := ⟨Tryz.f93.name, by decide, Tryz.func93.trans (congrArg some (by kernel_rfl))⟩
  f8 := ⟨Tryz.f104.name, by decide, Tryz.func104.trans (congrArg some (by kernel_rfl))⟩
  f11 := ⟨Tryz.f116.name, by decide, Tryz.func116.trans (congrArg some (by kernel_rfl))⟩
  t0 := Tryz.underlying0
  a0 := Tryz.isAgg0
  z0 := Tryz.sizeOf0
  v0 := Tryz.zeroValue0
  t24 := Tryz.underlying33
  a24 := Tryz.isAgg33
  z24 := Tryz.sizeOf33
  v24 := Tryz.zeroValue33
  t26 := Tryz.underlying9
  a26 := Tryz.isAgg9
  z26 := Tryz.sizeOf9
  v26 := Tryz.zeroValue9
  t28 := Tryz.underlying143
  a28 := Tryz.isAgg143
  z28 := Tryz.sizeOf143
  v28 := Tryz.zeroValue143
  i26 := by kernel_rfl }
def Tryz.sortA_ren : Go.Shelf.Ren := ⟨fun | 6 => 105 | 8 => 118 | 9 => 117 | 19 => 134 | 20 => 135 | 21 => 125 | 22 => 126 | 23 => 127 | 24 => 128 | 25 => 129 | 26 => 130 | 27 => 131 | 28 => 132 | 29 => 133 | 36 => 143 | 31 => 144 | 32 => 145 | 37 => 146 | 38 => 147 | 39 => 148 | 41 => 151 | n => n, fun | 27 => 33 | 29 => 9 | 3 => 3 | 32 => 172 | 26 => 33 | 0 => 0 | 44 => 149 | 46 => 187 | 4 => 4 | 36 => 179 | 35 => 178 | 41 => 183 | 5 => 5 | 9 => 9 | 53 => 192 | 57 => 196 | 63 => 204 | 64 => 115 | n => n, fun | n => n⟩
theorem Tryz.sortA : Go.Proofs.SlLaysM.n6 Tryz.prog Tryz.sortA_ren := {
  mixed := by kernel_rfl
  f6 := ⟨Tryz.f105.name, by decide, Tryz.func105.trans (congrArg some (by kernel_rfl))⟩
  f8 := Tryz.func118.trans (congrArg some (by kernel_rfl))
  f9 := ⟨Tryz.f117.name, by decide, Tryz.func117.trans (congrArg some (by kernel_rfl))⟩
  f19 := Tryz.func134.trans (congrArg some (by kernel_rfl))
  f20 := Tryz.func135.trans (congrArg some (by kernel_rfl))
  f21 := ⟨Tryz.f125.name, by decide, Tryz.func125.trans (congrArg some (by kernel_rfl))⟩
  f22 := ⟨Tryz.f126.name, by decide, Tryz.func126.trans (congrArg some (by kernel_rfl))⟩
  f23 := ⟨Tryz.f127.name, by decide, Tryz.func127.trans (congrArg some (by kernel_rfl))⟩
  f24 := ⟨Tryz.f128.name, by decide, Tryz.func128.trans (congrArg some (by kernel_rfl))⟩
  f25 := ⟨Tryz.f129.name, by decide, Tryz.func129.trans (congrArg some (by kernel_rfl))⟩
  f26 := ⟨Tryz.f130.name, by decide, Tryz.func130.trans (congrArg some (by kernel_rfl))⟩
  f27 := ⟨Tryz.f131.name, by decide, Tryz.func131.trans (congrArg some (by kernel_rfl))⟩
  f28 := ⟨Tryz.f132.name, by decide, Tryz.func132.trans (congrArg some (by kernel_rfl))⟩
  f29 := ⟨Tryz.f133.name, by decide, Tryz.func133.trans (congrArg some (by kernel_rfl))⟩
  f31 := Tryz.func144.trans (congrArg some (by kernel_rfl))
  f32 := Tryz.func145.trans (congrArg some (by kernel_rfl))
  f36 := ⟨Tryz.f143.name, by decide, Tryz.func143.trans (congrArg some (by kernel_rfl))⟩
  f37 := ⟨Tryz.f146.name, by decide, Tryz.func146.trans (congrArg some (by kernel_rfl))⟩
  f38 := ⟨Tryz.f147.name, by decide, Tryz.func147.trans (congrArg some (by kernel_rfl))⟩
  f39 := ⟨Tryz.f148.name, by decide, Tryz.func148.trans (congrArg some (by kernel_rfl))⟩
  f41 := ⟨Tryz.f151.name, by decide, Tryz.func151.trans (congrArg some (by kernel_rfl))⟩
  t0 := Tryz.underlying0
  a0 := Tryz.isAgg0
  z0 := Tryz.sizeOf0
  v0 := Tryz.zeroValue0
  t3 := Tryz.underlying3
  a3 := Tryz.isAgg3
  z3 := Tryz.sizeOf3
  v3 := Tryz.zeroValue3
  t4 := Tryz.underlying4
  a4 := Tryz.isAgg4
  z4 := Tryz.sizeOf4
  v4 := Tryz.zeroValue4
  t5 := Tryz.underlying5
  a5 := Tryz.isAgg5
  z5 := Tryz.sizeOf5
  v5 := Tryz.zeroValue5
  t9 := Tryz.underlying9
  a9 := Tryz.isAgg9
  z9 := Tryz.sizeOf9
  v9 := Tryz.zeroValue9
  t26 := Tryz.underlying33
  a26 := Tryz.isAgg33
  z26 := Tryz.sizeOf33
  v26 := Tryz.zeroValue33
  t27 := Tryz.underlying33
  a27 := Tryz.isAgg33
  z27 := Tryz.sizeOf33
  v27 := Tryz.zeroValue33
  t29 := Tryz.underlying9
  a29 := Tryz.isAgg9
  z29 := Tryz.sizeOf9
  v29 := Tryz.zeroValue9
  t32 := Tryz.underlying172
  a32 := Tryz.isAgg172
  z32 := Tryz.sizeOf172
  v32 := Tryz.zeroValue172
  t35 := Tryz.underlying178
  a35 := Tryz.isAgg178
  z35 := Tryz.sizeOf178
  v35 := Tryz.zeroValue178
  t36 := Tryz.underlying179
  a36 := Tryz.isAgg179
  z36 := Tryz.sizeOf179
  v36 := Tryz.zeroValue179
  t41 := Tryz.underlying183
  a41 := Tryz.isAgg183
  z41 := Tryz.sizeOf183
  v41 := Tryz.zeroValue183
  t44 := Tryz.underlying149
  a44 := Tryz.isAgg149
  z44 := Tryz.sizeOf149
  v44 := Tryz.zeroValue149
  t46 := Tryz.underlying187
  a46 := Tryz.isAgg187
  z46 := Tryz.sizeOf187
  v46 := Tryz.zeroValue187
  t53 := Tryz.underlying192
  a53 := Tryz.isAgg192
  z53 := Tryz.sizeOf192
  v53 := Tryz.zeroValue192
  t57 := Tryz.underlying196
  a57 := Tryz.isAgg196
  z57 := Tryz.sizeOf196
  v57 := Tryz.zeroValue196
  t63 := Tryz.underlying204
  a63 := Tryz.isAgg204
  z63 := Tryz.sizeOf204
  v63 := Tryz.zeroValue204
  t64 := Tryz.underlying115
  a64 := Tryz.isAgg115
  z64 := Tryz.sizeOf115
  v64 := Tryz.zeroValue115 }
end Go.Proofs
/- The program's List: a directory's names, rising. -/
namespace Go.Proofs.YtkhkcfbacnkcnaaGreatDoor
open Go.RowKit Go.Maps Go.Sort Go.Shelf
namespace Trk
open Tre (Nm Th goT dirT kidL kidT listT)

theorem sortsA (m : Nat) : AnyZ.SortsIn Tryz.prog Tryz.sortedA_ren Fence.wide m :=
  ⟨fun blk off cap ss W hH hblk hsz => callsIn_wide.2 (AnyM.slices_Sort_string Tryz.sortA blk off cap ss W hH hblk hsz),
   fun p cap W => callsIn_wide.2 (AnyM.slices_Sort_string_none Tryz.sortA p cap W)⟩
theorem keys_call (mb : Option Nat) (W : World) : Calls Tryz.prog 94 #[.map mb] W fun e w' =>
    e = .returned (.func (.func 106) #[] #[.pointer (some ⟨W.heap.size, 0, none⟩)]) ∧ w' = W.alloc (.cells #[.map mb] 74) :=
  (callsIn_wide (n := 5)).1 (AnyZ.keys_in Tryz.keysA Fence.wide 5 trivial rfl mb W)
/-- names that are answered, in a new row -/
def RowR (w : World) (l : List ByteArray) (e : Ending) (w' : World) : Prop := ∃ (A : Option Addr) (c : Nat), e = .returned (.slice A l.length c) ∧ w'.ownsRow w.heap.size 9 1 (.slice A l.length c) l.length (Pat.strs l) ∧ Below w.heap.size w w'
set_option maxHeartbeats 1000000 in
theorem sorted_some {w : World} {g N : Nat} {f : ByteArray → Option Nat} {D : DataW Unit} (h : Ask w g N f D) (hs : Maps.size D ≤ 1000000) :
    Calls Tryz.prog 93 #[.func (.func 106) #[] #[.pointer (some ⟨w.heap.size, 0, none⟩)]] (w.alloc (.cells #[.map (some g)] 74)) fun e w' =>
      ∃ (v : Value) (ss : List (List UInt8)), e = .returned v ∧ ss.Perm (strKeys D) ∧ w'.ownsRow (w.heap.size + 1) 9 1 v ss.length ((ss.mergeSort (fun x y => decide (x ≤ y))).map encStr) ∧ Below (w.heap.size + 1) (w.alloc (.cells #[.map (some g)] 74)) w' := by
  have hown := h.own
  have hbl := hown.lt
  have hseq : SeqGives Fence.wide 2 Tryz.prog 106 #[.pointer (some ⟨w.heap.size, 0, none⟩)] encStr (fun ss => ss.Perm (strKeys D)) (Maps.size D) (w.alloc (.cells #[.map (some g)] 74)) :=
    AnyZ.keys_gives (ρ := Tryz.keysA_ren) { Tryz.keysA with } Fence.wide _ trivial rfl (by omega) w.heap.size g N D _ (by simp) (by simp) (by
      obtain ⟨es, clock, hb, Ft, hs, hD⟩ := hown
      exact ⟨es, clock, (Below.heap_alloc _ _ _ hbl).trans hb, Ft, hs, hD⟩)
  have cS := AnyZ.sorted_in Tryz.sortedA Fence.wide 5 trivial trivial trivial trivial rfl (by omega) (sortsA _) (enters_of Tryz.func105 (by kernel_rfl) rfl) 106 #[.pointer (some ⟨w.heap.size, 0, none⟩)] trivial (enters_of Tryz.func106 (by kernel_rfl) rfl) _ _ (by unfold maxLen; omega) (by omega) _ hseq
  change CallsIn _ _ Tryz.prog 93 _ _ _ at cS
  refine ((callsIn_wide (n := 5)).1 cS).mono ?_
  rintro e w' ⟨v, ss, rfl, hS, hrow, _, hb⟩
  rw [World.size_alloc] at hrow hb
  exact ⟨v, ss, rfl, hS, hrow, hb⟩
set_option maxHeartbeats 1000000 in
theorem sorted_none (w : World) :
    Calls Tryz.prog 93 #[.func (.func 106) #[] #[.pointer (some ⟨w.heap.size, 0, none⟩)]] (w.alloc (.cells #[.map none] 74)) fun e w' =>
      ∃ (v : Value), e = .returned v ∧ w'.ownsRow (w.heap.size + 1) 9 1 v 0 [] ∧ Below (w.heap.size + 1) (w.alloc (.cells #[.map none] 74)) w' := by
  have hseq : SeqGives Fence.wide 2 Tryz.prog 106 #[.pointer (some ⟨w.heap.size, 0, none⟩)] encStr (fun ss : List (List UInt8) => ss = []) 0 (w.alloc (.cells #[.map none] 74)) :=
    AnyZ.keys_gives_nil (ρ := Tryz.keysA_ren) { Tryz.keysA with } Fence.wide _ trivial rfl w.heap.size _ (by simp) (by simp)
  have cS := AnyZ.sorted_in Tryz.sortedA Fence.wide 5 trivial trivial trivial trivial rfl (by omega) (sortsA _) (enters_of Tryz.func105 (by kernel_rfl) rfl) 106 #[.pointer (some ⟨w.heap.size, 0, none⟩)] trivial (enters_of Tryz.func106 (by kernel_rfl) rfl) _ 0 (Nat.zero_le _) (by omega) _ hseq
  change CallsIn _ _ Tryz.prog 93 _ _ _ at cS
  refine ((callsIn_wide (n := 5)).1 cS).mono ?_
  rintro e w' ⟨v, ss, rfl, rfl, hrow, _, hb⟩
  rw [World.size_alloc] at hrow hb
  have hrow' : w'.ownsRow (w.heap.size + 1) 9 1 v 0 (List.map encStr ([].mergeSort fun x y => decide (x ≤ y))) := hrow
  rw [List.mergeSort_nil, List.map_nil] at hrow'
  exact ⟨v, rfl, hrow', hb⟩
theorem row_slice1 {W : World} {B n : Nat} {e : TypeId} {v : Value} {xs : List Value} (h : W.ownsRow B e 1 v n xs) : ∃ A c, v = .slice A n c := by
  rcases h.2 with ⟨rfl, rfl⟩ | ⟨g, cap, cur, rfl, _⟩
  · exact ⟨none, 0, rfl⟩
  · exact ⟨_, _, rfl⟩

set_option maxRecDepth 100000 in
set_option maxHeartbeats 1000000 in
theorem tlist_any (w : World) (N : Nat) (t : List Th) (L : Nm → Nd) (p : Nm) (x : Nd) (d : Bool) (s : ByteArray) (h : Nod w N x (kb t L p) d s) (hW : Wf t) (hl : t.length ≤ 1000000) :
    Calls Tryz.prog 76 #[.pointer (some ⟨x.b, 0, none⟩)] w (RowR w (kidT t p)) := by
  have h2 := h.c2
  have hk := h.map
  cases hm : x.m with
  | none =>
    rw [hm] at h2 hk
    have h0 : kidT t p = [] := by
      cases hl' : kidT t p with
      | nil => rfl
      | cons y r =>
        have hy : y ∈ kidL t p := (kidT_perm t p).mem_iff.1 (by rw [hl']; simp)
        have := ((kids_of (L := L) hW).1 y).1 hy
        rw [hk y] at this
        cases this
    have HK := Lib.hid (keys_call none w)
    have HS := Lib.hid (sorted_none w)
    have H0 := Lib.hid h0
    clear hk h0 h
    go_enter Tryz.func76, Tryz.ntmps76
    go_wp2_with fail
    refine HK.out.mono ?_
    rintro e w1 ⟨rfl, rfl⟩
    go_wp2_with fail
    refine HS.out.mono ?_
    rintro e w2 ⟨v, rfl, ho, hb⟩
    obtain ⟨A, c, rfl⟩ := row_slice1 ho
    have HR := Lib.hid (show RowR w (kidT t p) (.returned (.slice A 0 c)) w2 from ⟨A, c, by rw [H0.out]; rfl, by rw [H0.out]; exact own_low ho (Nat.le_succ _), ((Below.refl _ w).alloc (Nat.le_refl _) _).trans (hb.mono (Nat.le_succ _))⟩)
    clear ho hb
    go_wp2
    go_ret
    exact HR.out
  | some g =>
    rw [hm] at h2 hk
    obtain ⟨D, hD⟩ := hk
    obtain ⟨hperm, hsz⟩ := hD.keys (kidL_once hW.once p) (kids_of hW).1 (kids_of (L := L) hW).2
    have hlen : (kidL t p).length ≤ t.length := by
      unfold Tre.kidL
      rw [List.length_map]
      exact List.length_filter_le _ _
    have HK := Lib.hid (keys_call (some g) w)
    have HS := Lib.hid (sorted_some hD (by omega))
    have HP := Lib.hid hperm
    clear hD hperm hsz hlen h
    go_enter Tryz.func76, Tryz.ntmps76
    go_wp2_with fail
    refine HK.out.mono ?_
    rintro e w1 ⟨rfl, rfl⟩
    go_wp2_with fail
    refine HS.out.mono ?_
    rintro e w2 ⟨v, ss, rfl, hss, ho, hb⟩
    have hks := keys_kidT hW.once p (hss.trans HP.out.symm)
    have hst : (ss.mergeSort (fun x y => decide (x ≤ y))).map encStr = Pat.strs (kidT t p) := by
      rw [← hks]
      unfold Pat.strs
      rw [List.map_map]
      rfl
    have hln : ss.length = (kidT t p).length := by rw [← hks, List.length_map, List.length_mergeSort]
    rw [hst, hln] at ho
    obtain ⟨A, c, rfl⟩ := row_slice1 ho
    have HR := Lib.hid (show RowR w (kidT t p) (.returned (.slice A (kidT t p).length c)) w2 from ⟨A, c, rfl, own_low ho (Nat.le_succ _), ((Below.refl _ w).alloc (Nat.le_refl _) _).trans (hb.mono (Nat.le_succ _))⟩)
    clear ho hb hst hln hks hss
    generalize (kidT t p).length = m at *
    go_wp2
    go_ret
    exact HR.out

theorem listT_no {t : List Th} {p : ByteArray} (h : dirE t p ≠ 0) : listT t p = ([], dirE t p) := by
  unfold dirE at h
  unfold dirE Tre.listT
  cases hs : Pat.spl p with
  | none => rfl
  | some n =>
    rw [hs] at h
    simp only at h ⊢
    by_cases hg : goT t n ≠ 0
    · rw [if_pos hg, if_pos hg]
    · rw [if_neg hg] at h ⊢
      rw [if_neg hg]
      by_cases hd : dirT t n = false
      · rw [if_pos hd, if_pos hd]
      · rw [if_neg hd] at h
        exact absurd rfl h
theorem listT_yes {t : List Th} {p : ByteArray} {n : Nm} {s : ByteArray} (h : IsDir t p n s) : listT t p = (kidT t n, 0) := by
  unfold Tre.listT
  rw [h.spl]
  simp only [h.go, h.dir]
  simp
set_option maxRecDepth 100000 in
set_option maxHeartbeats 1000000 in
theorem list_any (w : World) (N b0 : Nat) (t : List Th) (L : Nm → Nd) (p : ByteArray) (hM : Mem w N t L) (hb : (L []).b = b0) (hW : Wf t) (hp : p.size < 4294967281) (hl : t.length ≤ 1000000) :
    Calls Tryz.prog 44 #[.pointer (some ⟨b0, 0, none⟩), .string p] w fun e w' => ∃ (A : Option Addr) (c : Nat), e = .returned (.tuple #[.slice A (listT t p).1.length c, .int .i64 (listT t p).2]) ∧ w'.ownsRow w.heap.size 9 1 (.slice A (listT t p).1.length c) (listT t p).1.length (Pat.strs (listT t p).1) ∧ Below w.heap.size w w' := by
  have HM := Lib.hid hM
  clear hM
  go_enter Tryz.func44, Tryz.ntmps44
  go_wp2_with fail
  refine (dirAt_any w N b0 t L p HM.out hb hp).mono ?_
  rintro e w1 ⟨hf, hb1⟩
  have HB1 := Lib.hid hb1
  have HM1 := Lib.hid (HM.out.keep hb1)
  clear hb1
  rcases hf with ⟨he, rfl⟩ | ⟨n, s, hf, rfl⟩
  · have HZ := Lib.hid (listT_no he)
    generalize hg : dirE t p = g at *
    clear hg
    go_wp2
    refine bodyPost_ret (v := .tuple #[.slice none 0 0, .int .i64 g]) ?_ rfl ⟨none, 0, by rw [HZ.out]; rfl, by rw [HZ.out]; exact World.ownsRow_nil _ _ _ _, HB1.out⟩
    simp [results, Tryz.results44, go_sem]
  · have HZ := Lib.hid (listT_yes hf)
    have HL := Lib.hid (tlist_any w1 N t L n (L n) true s (HM1.out.nod _ _ _ hf.at') hW hl)
    clear hf
    generalize L n = y at *
    go_wp2_with fail
    refine HL.out.mono ?_
    rintro e w2 ⟨A, c, rfl, ho, hb2⟩
    have HO := Lib.hid (own_low ho HB1.out.size)
    have HB2 := Lib.hid (HB1.out.trans (hb2.mono HB1.out.size))
    clear ho hb2
    generalize hk : kidT t n = k at *
    clear hk
    generalize hm : k.length = m at *
    have HMM := Lib.hid hm
    clear hm
    go_wp2
    refine bodyPost_ret (v := .tuple #[.slice A m c, .int .i64 0]) ?_ rfl ⟨A, c, by rw [HZ.out, HMM.out], by rw [HZ.out, HMM.out]; exact HO.out, HB2.out⟩
    simp [results, Tryz.results44, go_sem]
end Trk
end Go.Proofs.YtkhkcfbacnkcnaaGreatDoor
/- The document's Join. -/
namespace Go.Proofs.YtkhkcfbacnkcnaaGreatDoor
open Go.RowKit Go.MapKept Go.Shelf
namespace Pat

/-- what the document's Join answers -/
def jnr (l : List ByteArray) : Value := if IsNames l then .tuple #[.string (pth l), .bool true] else .tuple #[.string ByteArray.empty, .bool false]

theorem tail_next {l : List ByteArray} {k : Nat} (hk : k < l.length) {t : ByteArray} (h : t.data.toList = Lib.joinTail [47] ((l.take k).map (·.data.toList))) :
    (t ++ ⟨#[47]⟩ ++ l[k]).data.toList = Lib.joinTail [47] ((l.take (k + 1)).map (·.data.toList)) := by
  rw [List.take_succ_eq_append_getElem hk, List.map_append, List.map_cons, List.map_nil, joinTail_snoc, ← h, ByteArray.data_append, ByteArray.data_append]
  simp

set_option maxRecDepth 100000 in
set_option maxHeartbeats 2000000 in
theorem refJoin_any (w : World) (A : Option Addr) (c : Nat) (l : List ByteArray) (h : Txs w A l) :
    Calls Tryz.prog 78 #[.slice A l.length c] w fun e w' => e = .returned (jnr l) ∧ w' = w := by
  have hll := h.len
  have H := Lib.hid h
  clear h
  by_cases h64 : l.length ≤ 64
  · by_cases h0 : l = []
    · subst h0
      have HJ := Lib.hid (show jnr [] = .tuple #[.string ⟨#[47]⟩, .bool true] from if_pos ⟨by decide, fun n hn => by simp at hn⟩)
      go_enter Tryz.func78, Tryz.ntmps78
      go_wp2
      refine bodyPost_ret (v := .tuple #[.string ⟨#[47]⟩, .bool true]) ?_ rfl ⟨by rw [HJ.out], rfl⟩
      simp [results, Tryz.results78, go_sem]
    · have hpos : 0 < l.length := List.length_pos_iff.2 h0
      have hg : ¬ (64 : Int) < (l.length : Int) := by omega
      have hz : ((l.length : Int) == 0) = false := beq_eq_false_iff_ne.2 (by omega)
      have hz2 : ¬ (l.length : Int) = 0 := by omega
      have H0 := Lib.hid h0
      clear h0
      go_enter Tryz.func78, Tryz.ntmps78
      go_wp2
      go_loopw [4, 15] (fun sv i wr => ∃ (k : Nat) (t : ByteArray), k ≤ l.length ∧ sv = .string t ∧ i = .int .i64 (k : Int) ∧ wr = w ∧ t.size ≤ 49 * k ∧ (∀ s ∈ l.take k, Ent.Right (Crc.tx s)) ∧ t.data.toList = Lib.joinTail [47] ((l.take k).map (·.data.toList))) (fun _ i _ => l.length - (intOf i).toNat)
      case atStart => exact ⟨0, ByteArray.empty, Nat.zero_le _, rfl, rfl, rfl, Nat.zero_le _, fun s hs => by simp at hs, rfl⟩
      case round =>
        obtain ⟨k, t, hk, rfl, rfl, rfl, hsz, hr, ht⟩ := hrel
        have HR := Lib.hid hr
        have HT := Lib.hid ht
        clear hr ht
        by_cases hlt : k < l.length
        · obtain ⟨b, o, rfl, _, hc0⟩ := H.out.at' k hlt
          have hs := H.out.size _ (List.getElem_mem hlt)
          have HTK := Lib.hid (show l.take (k + 1) = l.take k ++ [l[k]] from List.take_succ_eq_append_getElem hlt)
          have HM := Lib.hid (List.getElem_mem hlt)
          have HTN := Lib.hid (tail_next hlt HT.out)
          generalize l[k] = s at *
          by_cases hr : Ent.Right (Crc.tx s)
          · have hrb : Ent.right (Crc.tx s) = true := Ent.right_iff.2 hr
            have HX := Lib.hid hr
            have hs48 : s.size ≤ 48 := by have := hr.1.2; rw [Crc.tx_len] at this; exact this
            have ha1 : t.size + 1 ≤ 9223372036854775807 := by omega
            have ha2 : t.size + 1 + s.size ≤ 9223372036854775807 := by omega
            have HSZ := Lib.hid (show (t ++ ⟨#[47]⟩ ++ s).size ≤ 49 * (k + 1) by
              rw [ByteArray.size_append, ByteArray.size_append]
              have : (⟨#[47]⟩ : ByteArray).size = 1 := rfl
              omega)
            clear hr
            go_wp2_with fail
            refine (Ent.refRight_any _ s hs).mono ?_
            rintro e w' ⟨rfl, rfl⟩
            rw [hrb]
            go_wp2
            refine ⟨⟨k + 1, _, by omega, rfl, by go_num, by first | rfl | trivial, HSZ.out, ?_, HTN.out⟩, by simp [intOf]; omega⟩
            rw [HTK.out]
            intro x hx
            rcases List.mem_append.1 hx with h1 | h1
            · exact HR.out x h1
            · obtain rfl : x = s := by simpa using h1
              exact HX.out
          · have hrb : Ent.right (Crc.tx s) = false := Ent.right_no hr
            have HX := Lib.hid (show jnr l = .tuple #[.string ByteArray.empty, .bool false] from if_neg (fun h => hr (h.2 _ HM.out)))
            clear hr
            go_wp2_with fail
            refine (Ent.refRight_any _ s hs).mono ?_
            rintro e w' ⟨rfl, rfl⟩
            rw [hrb]
            go_wp2
            refine bodyPost_ret (v := .tuple #[.string ByteArray.empty, .bool false]) ?_ rfl ⟨by rw [HX.out], rfl⟩
            simp [results, Tryz.results78, go_sem]
            rfl
        · obtain rfl : k = l.length := by omega
          rw [List.take_length] at HR HT
          have HX := Lib.hid (show jnr l = .tuple #[.string t, .bool true] by
            unfold jnr
            rw [if_pos ⟨h64, HR.out⟩]
            unfold pth
            rw [if_neg H0.out, ← HT.out])
          go_wp2
          refine bodyPost_ret (v := .tuple #[.string t, .bool true]) ?_ rfl ⟨by rw [HX.out], rfl⟩
          simp [results, Tryz.results78, go_sem]
  · have hg : (64 : Int) < (l.length : Int) := by omega
    have HJ := Lib.hid (show jnr l = .tuple #[.string ByteArray.empty, .bool false] from if_neg (fun h => h64 h.1))
    go_enter Tryz.func78, Tryz.ntmps78
    go_wp2
    refine bodyPost_ret (v := .tuple #[.string ByteArray.empty, .bool false]) ?_ rfl ⟨by rw [HJ.out], rfl⟩
    simp [results, Tryz.results78, go_sem]
    rfl
end Pat
end Go.Proofs.YtkhkcfbacnkcnaaGreatDoor
/- How many bytes a file, names a directory has; names' path; whether acts are few. -/
namespace Go.Proofs.YtkhkcfbacnkcnaaGreatDoor
open Go.RowKit Go.MapKept
namespace Tre
open Pat (Txs)

/-- how many bytes a file, names a directory has, whether it is one, the error -/
def sizeT (t : List Th) (p : ByteArray) : Int × Bool × Int :=
  match Pat.spl p with
  | none => (0, false, 3)
  | some n => if goT t n ≠ 0 then (0, false, goT t n) else match fi t n with
    | some i => if isDirAt t i = true then ((kidT t n).length, true, 0) else ((datT t i).size, false, 0)
    | none => ((kidT t n).length, true, 0)

set_option maxRecDepth 100000 in
set_option maxHeartbeats 4000000 in
theorem size_any (w : World) (A : Option Addr) (c q : Nat) (l : List Tg) (p : ByteArray) (hq : l.length = q) (h : Ths w A l) (hp : p.size < 4294967281) (hl : q ≤ 100000) :
    Calls Tryz.prog 17 #[tv A q c, .string p] w fun e w' => e = .returned (.tuple #[.int .i64 (sizeT (ths l) p).1, .bool (sizeT (ths l) p).2.1, .int .i64 (sizeT (ths l) p).2.2]) ∧ Below w.heap.size w w' := by
  have HB0 := Lib.hid ((Below.refl w.heap.size w).alloc (Nat.le_refl _) (.cells #[.slice A q c] 29))
  have hc0 : (w.alloc (.cells #[.slice A q c] 29)).cell? ⟨w.heap.size, 0, none⟩ = some (.slice A q c) := Crc.alloc_cell w #[.slice A q c] 29 0
  have hl0 : w.heap.size < (w.alloc (.cells #[.slice A q c] 29)).heap.size := by simp
  have HT := Lib.hid (h.keep HB0.out)
  have HQ := Lib.hid hq
  clear h hq
  go_enter Tryz.func17, Tryz.ntmps17
  go_upto_region 1 with fail
  generalize w.alloc (.cells #[.slice A q c] 29) = w1 at *
  go_wp2_with fail
  refine (Pat.refSplit_any w1 p hp).mono ?_
  rintro e w2 ⟨hb2, hs⟩
  have HB2 := Lib.hid (HB0.out.trans (hb2.mono HB0.out.size))
  have HT2 := Lib.hid (HT.out.keep hb2)
  have hc2 := (hb2.cell (p := ⟨w.heap.size, 0, none⟩) hl0).trans hc0
  have hl2 := Nat.lt_of_lt_of_le hl0 hb2.size
  clear hb2 hc0 hl0
  rcases hs with ⟨n, B, d, hsp, rfl, hn, hd, _⟩ | ⟨hsp, rfl⟩
  · have hn64 := (Pat.pth_spl hsp).1.1
    have HLT := Lib.hid (show sizeT (ths l) p = if goT (ths l) n ≠ 0 then (0, false, goT (ths l) n) else match fi (ths l) n with
      | some i => if isDirAt (ths l) i = true then (((kidT (ths l) n).length : Int), true, (0 : Int)) else (((datT (ths l) i).size : Int), false, 0)
      | none => ((kidT (ths l) n).length, true, 0) by unfold sizeT; rw [hsp])
    have HN2 := Lib.hid hn
    clear hsp hn
    go_wp2_with fail
    refine (go_any w2 A B c d l n q n.length HQ.out rfl HT2.out HN2.out hd (by omega)).mono ?_
    rintro e w3 ⟨rfl, hb3⟩
    have HB3 := Lib.hid (HB2.out.trans (hb3.mono HB2.out.size))
    have HT3 := Lib.hid (HT2.out.keep hb3)
    have HN3 := Lib.hid (HN2.out.keep hb3)
    have hc3 := (hb3.cell (p := ⟨w.heap.size, 0, none⟩) hl2).trans hc2
    have hl3 := Nat.lt_of_lt_of_le hl2 hb3.size
    clear hb3 hc2 hl2
    by_cases hg : goT (ths l) n = 0
    · rw [hg]
      have HG := Lib.hid (HLT.out.trans (if_neg (fun h => h hg)))
      clear hg HLT
      go_wp2_with fail
      refine (find_any w3 A B c d l n q n.length HQ.out rfl HT3.out HN3.out).mono ?_
      rintro e w4 ⟨rfl, hb4⟩
      have HB4 := Lib.hid (HB3.out.trans (hb4.mono HB3.out.size))
      have HT4 := Lib.hid (HT3.out.keep hb4)
      have HN4 := Lib.hid (HN3.out.keep hb4)
      have hc4 := (hb4.cell (p := ⟨w.heap.size, 0, none⟩) hl3).trans hc3
      clear hb4 hc3 hl3
      cases hfi : fi (ths l) n with
      | none =>
        rw [fv_none hfi]
        have HV := Lib.hid (show sizeT (ths l) p = (((kidT (ths l) n).length : Int), true, 0) by rw [HG.out, hfi])
        clear hfi HG
        go_wp2_with fail
        refine (kids_any w4 A B c d q n.length l n HQ.out rfl HT4.out HN4.out hl (by omega)).mono ?_
        rintro e w5 ⟨G, gc, rfl, -, hb5⟩
        have HB5 := Lib.hid (HB4.out.trans (hb5.mono HB4.out.size))
        clear hb5
        generalize (kidT (ths l) n).length = m at *
        go_wp2
        refine bodyPost_ret (v := .tuple #[.int .i64 (m : Int), .bool true, .int .i64 0]) ?_ rfl ⟨by rw [HV.out], HB5.out⟩
        simp [results, Tryz.results17, go_sem]
      | some i =>
        rw [fv_some hfi]
        have hil := fi_lt hfi
        have HS := Lib.hid (show sizeT (ths l) p = if l[i].2.2.2.1 = true then (((kidT (ths l) n).length : Int), true, (0 : Int)) else ((l[i].2.2.2.2.size : Int), false, 0) by
          rw [HG.out, hfi]
          simp only
          rw [isDir_at hil, dat_at hil])
        obtain ⟨b, o, rfl, _, h0, h1, h2⟩ := HT4.out.at' i hil
        have hi0 : (0 : Int) ≤ (i : Int) := by omega
        have hi1 : (i : Int) < (q : Int) := by have := HQ.out; omega
        clear hfi HG
        generalize l[i] = g at *
        obtain ⟨ga, gx, gn, gd, s⟩ := g
        simp only at h0 h1 h2 HS
        cases gd with
        | true =>
          have HV := Lib.hid (HS.out.trans (if_pos rfl))
          clear HS
          go_wp2_with fail
          refine (kids_any w4 (some ⟨b, o, none⟩) B c d q n.length l n HQ.out rfl HT4.out HN4.out hl (by omega)).mono ?_
          rintro e w5 ⟨G, gc, rfl, -, hb5⟩
          have HB5 := Lib.hid (HB4.out.trans (hb5.mono HB4.out.size))
          clear hb5
          generalize (kidT (ths l) n).length = m at *
          go_wp2
          refine bodyPost_ret (v := .tuple #[.int .i64 (m : Int), .bool true, .int .i64 0]) ?_ rfl ⟨by rw [HV.out], HB5.out⟩
          simp [results, Tryz.results17, go_sem]
        | false =>
          have HV := Lib.hid (HS.out.trans (if_neg (by decide)))
          clear HS
          go_wp2
          refine bodyPost_ret (v := .tuple #[.int .i64 (s.size : Int), .bool false, .int .i64 0]) ?_ rfl ⟨by rw [HV.out], HB4.out⟩
          simp [results, Tryz.results17, go_sem]
    · have HV := Lib.hid (HLT.out.trans (if_pos hg))
      have hg1 : (goT (ths l) n == 0) = false := by simpa using hg
      clear HLT
      generalize goT (ths l) n = z at *
      go_wp2
      refine bodyPost_ret (v := .tuple #[.int .i64 0, .bool false, .int .i64 z]) ?_ rfl ⟨by rw [HV.out], HB3.out⟩
      simp [results, Tryz.results17, go_sem]
  · have HV := Lib.hid (show sizeT (ths l) p = (0, false, 3) by unfold sizeT; rw [hsp])
    clear hsp
    go_wp2
    refine bodyPost_ret (v := .tuple #[.int .i64 0, .bool false, .int .i64 3]) ?_ rfl ⟨by rw [HV.out], HB2.out⟩
    simp [results, Tryz.results17, go_sem]

/-- the path of names that may be -/
def jnT (n : Nm) : ByteArray := if Pat.IsNames n then Pat.pth n else ByteArray.empty
set_option maxHeartbeats 1000000 in
theorem join_any (w : World) (A : Option Addr) (c m : Nat) (n : Nm) (hm : n.length = m) (h : Txs w A n) :
    Calls Tryz.prog 46 #[.slice A m c] w fun e w' => e = .returned (.string (jnT n)) ∧ w' = w := by
  subst hm
  have H := Lib.hid (Pat.refJoin_any w A c n h)
  by_cases hn : Pat.IsNames n
  · have HJ := Lib.hid (show Pat.jnr n = .tuple #[.string (jnT n), .bool true] by unfold Pat.jnr jnT; rw [if_pos hn, if_pos hn])
    clear h hn
    go_enter Tryz.func46, Tryz.ntmps46
    go_wp2_with fail
    refine H.out.mono ?_
    rintro e w1 ⟨he, rfl⟩
    rw [HJ.out] at he
    subst he
    go_wp2
    go_ret
    exact ⟨rfl, rfl⟩
  · have HJ := Lib.hid (show Pat.jnr n = .tuple #[.string (jnT n), .bool false] by unfold Pat.jnr jnT; rw [if_neg hn, if_neg hn])
    clear h hn
    go_enter Tryz.func46, Tryz.ntmps46
    go_wp2_with fail
    refine H.out.mono ?_
    rintro e w1 ⟨he, rfl⟩
    rw [HJ.out] at he
    subst he
    go_wp2
    go_ret
    exact ⟨rfl, rfl⟩

/-- an act: its kind, path, place, number, bytes -/
structure Ac where
  k : Nat
  p : ByteArray
  x : Int
  n : Int
  a : Option Addr
  c : Nat
  b : List Nat
/-- acts as they lie -/
structure Acs (w : World) (A : Option Addr) (l : List Ac) : Prop where
  len : l.length ≤ 9223372036854775807
  ok : ∀ g ∈ l, g.k < 256 ∧ g.p.size ≤ 9223372036854775807 ∧ g.b.length ≤ g.c ∧ Crc.Bts w g.a g.b ∧ (g.a = none → g.c = 0) ∧ g.x ≤ 9223372036854775807 ∧ g.n ≤ 9223372036854775807
  at' : ∀ j (h : j < l.length), ∃ b o, A = some ⟨b, o, none⟩ ∧ b < w.heap.size ∧ w.cell? ⟨b, o + j * 5, none⟩ = some (.int .u8 (l[j].k : Int)) ∧ w.cell? ⟨b, o + j * 5 + 1, none⟩ = some (.string l[j].p) ∧ w.cell? ⟨b, o + j * 5 + 2, none⟩ = some (.int .i64 l[j].x) ∧ w.cell? ⟨b, o + j * 5 + 3, none⟩ = some (.int .i64 l[j].n) ∧ w.cell? ⟨b, o + j * 5 + 4, none⟩ = some (.slice l[j].a l[j].b.length l[j].c)
theorem Acs.keep {w w' : World} {A : Option Addr} {l : List Ac} (h : Acs w A l) (hb : Below w.heap.size w w') : Acs w' A l :=
  ⟨h.len, fun g hg => by
    obtain ⟨h1, h2, h3, h4, h5⟩ := h.ok g hg
    exact ⟨h1, h2, h3, h4.keep hb, h5⟩, fun j hj => by
    obtain ⟨b, o, e, hlt, h0, h1, h2, h3, h4⟩ := h.at' j hj
    exact ⟨b, o, e, Nat.lt_of_lt_of_le hlt hb.size, (hb.cell (p := ⟨b, o + j * 5, none⟩) hlt).trans h0, (hb.cell (p := ⟨b, o + j * 5 + 1, none⟩) hlt).trans h1, (hb.cell (p := ⟨b, o + j * 5 + 2, none⟩) hlt).trans h2, (hb.cell (p := ⟨b, o + j * 5 + 3, none⟩) hlt).trans h3, (hb.cell (p := ⟨b, o + j * 5 + 4, none⟩) hlt).trans h4⟩⟩
/-- little -/
def Lit (g : Ac) : Prop := g.p.size ≤ 300 ∧ g.b.length ≤ 500 ∧ ¬ (1500 < g.x ∧ g.x ≤ 268435456)
instance (g : Ac) : Decidable (Lit g) := by unfold Lit; infer_instance
def FewA (l : List Ac) : Prop := (∀ g ∈ l, Lit g) ∧ l.length ≤ 40
instance (l : List Ac) : Decidable (FewA l) := by unfold FewA; infer_instance
def fewA (l : List Ac) : Bool := decide (FewA l)

set_option maxRecDepth 100000 in
set_option maxHeartbeats 2000000 in
theorem few_any (w : World) (A : Option Addr) (c : Nat) (l : List Ac) (h : Acs w A l) :
    Calls Tryz.prog 8 #[.slice A l.length c] w fun r w' => r = .returned (.bool (fewA l)) ∧ Below w.heap.size w w' := by
  have hn := h.len
  have H := Lib.hid h
  clear h
  go_enter Tryz.func8, Tryz.ntmps8
  go_wp2
  go_loopw [7] (fun i wr => ∃ m : Nat, m ≤ l.length ∧ i = .int .i64 (m : Int) ∧ Below w.heap.size w wr ∧ ∀ e ∈ l.take m, Lit e) (fun i _ => l.length - (intOf i).toNat)
  case atStart => exact ⟨0, Nat.zero_le _, rfl, Below.refl _ _, fun e he => by simp at he⟩
  case round =>
    obtain ⟨m, hm, rfl, hb, hg⟩ := hrel
    have HG := Lib.hid hg
    have HB := Lib.hid hb
    clear hg
    by_cases hlt : m < l.length
    · obtain ⟨b, o, rfl, hbb, h0, h1, h2, h3, h4⟩ := (H.out.keep hb).at' m hlt
      have HT := Lib.hid (show l.take (m + 1) = l.take m ++ [l[m]] from List.take_succ_eq_append_getElem hlt)
      have HM := Lib.hid (List.getElem_mem hlt)
      have HOK := Lib.hid (H.out.ok _ (List.getElem_mem hlt))
      clear hb
      generalize hgm : l[m] = g at *
      obtain ⟨k, p, x, n, a, gc, bs⟩ := g
      simp only at h0 h1 h2 h3 h4
      have hps := HOK.out.2.1
      have hbs := HOK.out.2.2.2.1.len
      simp only at hps hbs
      have HN := Lib.hid (HB.out.alloc HB.out.size (.cells #[.int .u8 (k : Int), .string p, .int .i64 x, .int .i64 n, .slice a bs.length gc] 32))
      have no : ¬ Lit ⟨k, p, x, n, a, gc, bs⟩ → fewA l = false := fun h => decide_eq_false (fun hf => h (hf.1 _ HM.out))
      have NO := Lib.hid no
      clear no hgm
      by_cases c1 : (300 : Int) < (p.size : Int)
      · have HF := Lib.hid (NO.out (fun h => by have h1 : p.size ≤ 300 := h.1; omega))
        go_wp2
        go_ret
        exact ⟨by rw [HF.out]; rfl, HN.out⟩
      · by_cases c2 : (500 : Int) < (bs.length : Int)
        · have HF := Lib.hid (NO.out (fun h => by have h1 : bs.length ≤ 500 := h.2.1; omega))
          go_wp2
          go_ret
          exact ⟨by rw [HF.out]; rfl, HN.out⟩
        · by_cases c3 : 1500 < x
          · by_cases c4 : x ≤ 268435456
            · have HF := Lib.hid (NO.out (fun h => h.2.2 ⟨c3, c4⟩))
              go_wp2
              go_ret
              exact ⟨by rw [HF.out]; rfl, HN.out⟩
            · have HL := Lib.hid (show Lit ⟨k, p, x, n, a, gc, bs⟩ from ⟨by show p.size ≤ 300; omega, by show bs.length ≤ 500; omega, fun h => c4 h.2⟩)
              go_wp2
              refine ⟨⟨m + 1, by omega, by go_num, HN.out, ?_⟩, by simp [intOf]; omega⟩
              rw [HT.out]
              intro e he
              rcases List.mem_append.1 he with h1 | h1
              · exact HG.out e h1
              · obtain rfl : e = _ := List.mem_singleton.1 h1
                exact HL.out
          · have HL := Lib.hid (show Lit ⟨k, p, x, n, a, gc, bs⟩ from ⟨by show p.size ≤ 300; omega, by show bs.length ≤ 500; omega, fun h => c3 h.1⟩)
            go_wp2
            refine ⟨⟨m + 1, by omega, by go_num, HN.out, ?_⟩, by simp [intOf]; omega⟩
            rw [HT.out]
            intro e he
            rcases List.mem_append.1 he with h1 | h1
            · exact HG.out e h1
            · obtain rfl : e = _ := List.mem_singleton.1 h1
              exact HL.out
    · obtain rfl : m = l.length := by omega
      rw [List.take_length] at HG
      by_cases h40 : l.length ≤ 40
      · have HF := Lib.hid (show fewA l = true from decide_eq_true ⟨HG.out, h40⟩)
        have hd : decide ((l.length : Int) ≤ 40) = true := decide_eq_true (by omega)
        go_wp2
        go_ret
        exact ⟨by rw [HF.out, ← hd]; rfl, HB.out⟩
      · have HF := Lib.hid (show fewA l = false from decide_eq_false (fun h => h40 h.2))
        have hd : decide ((l.length : Int) ≤ 40) = false := decide_eq_false (by omega)
        go_wp2
        go_ret
        exact ⟨by rw [HF.out, ← hd]; rfl, HB.out⟩
end Tre
end Go.Proofs.YtkhkcfbacnkcnaaGreatDoor
/- The program's Size. -/
namespace Go.Proofs.YtkhkcfbacnkcnaaGreatDoor
open Go.RowKit Go.MapKept
namespace Trk
open Tre (Nm Th fi isDirAt datT goT dirT kidL kidT sizeT)

theorem sizeT_no {t : List Th} {p : ByteArray} (h : ge t p ≠ 0) : sizeT t p = (0, false, ge t p) := by
  unfold ge at *
  unfold Tre.sizeT
  cases hs : Pat.spl p with
  | none => rfl
  | some n =>
    rw [hs] at h
    simp only at h ⊢
    rw [if_pos h]
theorem sizeT_yes {t : List Th} (hW : Wf t) {p : ByteArray} {n : Nm} {d : Bool} {s : ByteArray} (hs : Pat.spl p = some n) (hg : goT t n = 0) (hv : T t n = some (d, s)) : sizeT t p = if d = true then (((kidT t n).length : Int), true, 0) else ((s.size : Int), false, 0) := by
  unfold Tre.sizeT
  rw [hs]
  simp only
  rw [if_neg (fun h => h hg)]
  by_cases h0 : n = []
  · rw [h0, T_root] at hv
    injection hv with hv
    injection hv with h1 h2
    subst h1
    cases hf : fi t n with
    | none => rfl
    | some i =>
      obtain ⟨hi, h3, _⟩ := Tre.fi_some hf
      exact absurd (h3.trans h0) (hW.nm _ (List.getElem_mem hi)).1
  · obtain ⟨i, hi⟩ := fi_of_T h0 hv
    obtain ⟨hl, h2⟩ := T_fi h0 hi
    rw [hv] at h2
    injection h2 with h2
    rw [hi]
    have hd : isDirAt t i = d := by unfold Tre.isDirAt; rw [List.getElem?_eq_getElem hl]; exact (congrArg Prod.fst h2).symm
    have hs' : datT t i = s := by unfold Tre.datT; rw [List.getElem?_eq_getElem hl]; exact (congrArg Prod.snd h2).symm
    simp only [hd, hs']

set_option maxRecDepth 100000 in
set_option maxHeartbeats 1000000 in
theorem size_any (w : World) (N b0 : Nat) (t : List Th) (L : Nm → Nd) (p : ByteArray) (hM : Mem w N t L) (hb : (L []).b = b0) (hW : Wf t) (hp : p.size < 4294967281) :
    Calls Tryz.prog 16 #[.pointer (some ⟨b0, 0, none⟩), .string p] w fun e w' => e = .returned (.tuple #[.int .i64 (sizeT t p).1, .bool (sizeT t p).2.1, .int .i64 (sizeT t p).2.2]) ∧ Below w.heap.size w w' := by
  have HM := Lib.hid hM
  clear hM
  go_enter Tryz.func16, Tryz.ntmps16
  go_wp2_with fail
  refine (goTo_any w N b0 t L p HM.out hb hp).mono ?_
  rintro e w1 ⟨rfl, hb1⟩
  have HB1 := Lib.hid hb1
  have HM1 := Lib.hid (HM.out.keep hb1)
  clear hb1
  by_cases hg : ge t p = 0
  · obtain ⟨n, ⟨d, s⟩, hs, hn, hv, hx⟩ := ge_yes (L := L) hg
    rw [hx, hg]
    have HD := Lib.hid (HM1.out.nod _ _ _ hv)
    have h0 := HD.out.c0
    have h1 := HD.out.c1
    have h2 := HD.out.c2
    have hlen := HD.out.kids hW
    unfold pv
    cases d with
    | true =>
      simp only [Bool.not_true] at h0
      have HZ := Lib.hid ((sizeT_yes hW hs hn hv).trans (if_pos rfl))
      rw [kidT_len] at HZ
      clear hs hn hv hx hg
      generalize L n = x at *
      generalize (kidL t n).length = k at *
      go_wp2
      refine bodyPost_ret (v := .tuple #[.int .i64 (k : Int), .bool true, .int .i64 0]) ?_ rfl ⟨by rw [HZ.out], HB1.out⟩
      simp [results, Tryz.results16, go_sem]
    | false =>
      simp only [Bool.not_false] at h0
      have HZ := Lib.hid ((sizeT_yes hW hs hn hv).trans (if_neg (by decide)))
      clear hs hn hv hx hg
      generalize L n = x at *
      go_wp2
      refine bodyPost_ret (v := .tuple #[.int .i64 (s.size : Int), .bool false, .int .i64 0]) ?_ rfl ⟨by rw [HZ.out], HB1.out⟩
      simp [results, Tryz.results16, go_sem]
  · obtain ⟨hx, _⟩ := ge_no (L := L) hg
    have HZ := Lib.hid (sizeT_no hg)
    rw [hx]
    unfold pv
    clear hx
    generalize ge t p = g at *
    go_wp2
    refine bodyPost_ret (v := .tuple #[.int .i64 0, .bool false, .int .i64 g]) ?_ rfl ⟨by rw [HZ.out], HB1.out⟩
    simp [results, Tryz.results16, go_sem]
end Trk
end Go.Proofs.YtkhkcfbacnkcnaaGreatDoor
/- An act on the document's tree. -/
namespace Go.Proofs.YtkhkcfbacnkcnaaGreatDoor
open Go.RowKit Go.MapKept
namespace Tre
open Pat (Txs)

/-- what an act makes of a tree; its error, the bytes, the names that are answered -/
def doT (t : List Th) (k : Nat) (p : ByteArray) (x n : Int) (v : ByteArray) : List Th × Int × ByteArray × List ByteArray :=
  if k % 8 = 0 then ((addT t p false).1, (addT t p false).2, ⟨#[]⟩, []) else
  if k % 8 = 1 then ((addT t p true).1, (addT t p true).2, ⟨#[]⟩, []) else
  if k % 8 = 2 then ((writeT t p x v).1, (writeT t p x v).2, ⟨#[]⟩, []) else
  if k % 8 = 3 then ((truncT t p x).1, (truncT t p x).2, ⟨#[]⟩, []) else
  if k % 8 = 4 then ((unlinkT t p).1, (unlinkT t p).2, ⟨#[]⟩, []) else
  if k % 8 = 5 then ((rmdirT t p).1, (rmdirT t p).2, ⟨#[]⟩, []) else
  if k % 8 = 6 then (t, (readT t p x n).2, (readT t p x n).1, []) else (t, (listT t p).2, ⟨#[]⟩, (listT t p).1)
/-- the answer of an act: a tree, a number, a text, names -/
def DoR (w : World) (A0 : Option Addr) (l0 : List Tg) (r : List Th × Int × ByteArray × List ByteArray) (e : Ending) (w' : World) : Prop :=
  ∃ (A : Option Addr) (c : Nat) (l : List Tg) (G : Option Addr) (gc : Nat), e = .returned (.tuple #[tv A l.length c, .int .i64 r.2.1, .string r.2.2.1, .slice G r.2.2.2.length gc]) ∧ Ths w' A l ∧ ths l = r.1 ∧ (A = none → c = 0) ∧ l.length ≤ c ∧ (Txs w' G r.2.2.2 ∧ Fr w G) ∧ Below w.heap.size w w' ∧ ∀ b, b < w.heap.size → Apart b A0 l0 → Apart b A l
/-- the tree's box, the act's, the answer's block -/
theorem bx_three (w : World) (v u : Value) (xs : Array Value) (t t' t2 : TypeId) : Bx (((w.alloc (.cells #[v] t)).alloc (.cells xs t2)).alloc (.cells #[u] t')) w.heap.size (w.heap.size + 1 + 1) v u := by
  have e : ((w.alloc (.cells #[v] t)).alloc (.cells xs t2)).heap.size = w.heap.size + 1 + 1 := by simp
  have r := World.rowIs_alloc ((w.alloc (.cells #[v] t)).alloc (.cells xs t2)) #[u] t' (fun _ => u) (fun j hj => by
    have : j < 1 := hj
    match j, this with
    | 0, _ => rfl)
  rw [e] at r
  exact ⟨by simp; omega, by simp, by rw [World.cell?_alloc_old _ _ _ (by simp; omega), World.cell?_alloc_old _ _ _ (by simp)]; exact Crc.alloc_cell w #[v] t 0, r.cell (by simp), r.frozen 0⟩

/-- behind a call that answers a tree and a number: stored in the answer's block, copied into a block of v's own -/
theorem do_fin {w w1 w2 : World} {A A' : Option Addr} {c' b1 : Nat} {l l' : List Tg} {r : List Th × Int} (HB0 : Below w.heap.size w w1) (hb1 : b1 = w.heap.size + 1 + 1) (hl1 : b1 < w1.heap.size) (ha1 : Apart b1 A l) (ht : Ths w2 A' l') (hl' : ths l' = r.1) (hA' : A' = none → c' = 0) (hc' : l'.length ≤ c') (hb : Below w1.heap.size w1 w2) (hap : ∀ b, b < w1.heap.size → Apart b A l → Apart b A' l') (O : Obj) :
    DoR w A l (r.1, r.2, ⟨#[]⟩, []) (.returned (.tuple #[tv A' l'.length c', .int .i64 r.2, .string ⟨#[]⟩, .slice none 0 0])) ((w2.setCell ⟨b1, 0, none⟩ (.slice A' l'.length c')).alloc O) := by
  have hz := (HB0.trans (hb.mono HB0.size)).setCell (p := ⟨b1, 0, none⟩) (by simp only; omega) (.slice A' l'.length c')
  exact ⟨A', c', l', none, 0, rfl, (ths_set ht (hap b1 hl1 ha1) 0 _).keep ((Below.refl _ _).alloc (Nat.le_refl _) _), hl', hA', hc', ⟨Pat.txs_nil _ _, fr_none w⟩, hz.alloc hz.size _, fun b hb4 ha => hap b (Nat.lt_of_lt_of_le hb4 HB0.size) ha⟩

/-- names stay where a cell that is no text is stored -/
theorem txs_put {w : World} {G : Option Addr} {n : List ByteArray} {b : Nat} {v : Value} (h : Txs w G n) (hc : w.cell? ⟨b, 0, none⟩ = some v) (hv : ∀ s, v ≠ .string s) (u : Value) : Txs (w.setCell ⟨b, 0, none⟩ u) G n :=
  ⟨h.size, h.len, fun j hj => by
    obtain ⟨b', o', e, hlt, hx⟩ := h.at' j hj
    refine ⟨b', o', e, by simpa [World.setCell] using hlt, ?_⟩
    rw [World.cell?_setCell_other _ _ _ _ (fun e => by
      have hc2 := hc
      first
        | rw [e, hx] at hc2
          injection hc2 with hc2
          exact hv _ hc2.symm
        | rw [← e, hx] at hc2
          injection hc2 with hc2
          exact hv _ hc2.symm)]
    exact hx⟩
/-- behind a call that answers no tree: the tree stored in the answer's block as it is -/
theorem do_fin2 {w w2 : World} {A G : Option Addr} {c q b1 gc : Nat} {l : List Tg} {names : List ByteArray} (h : Ths w A l) (hq : l.length = q) (hA : A = none → c = 0) (hc : q ≤ c) (hb : Below w.heap.size w w2) (hb1 : b1 = w.heap.size + 1 + 1) (hc1 : w2.cell? ⟨b1, 0, none⟩ = some (.slice none 0 0)) (hn : Txs w2 G names) (hfr : Fr w G) (z : Int) (s : ByteArray) :
    DoR w A l (ths l, z, s, names) (.returned (.tuple #[tv A q c, .int .i64 z, .string s, .slice G names.length gc])) (w2.setCell ⟨b1, 0, none⟩ (.slice A q c)) := by
  have hz := hb.setCell (p := ⟨b1, 0, none⟩) (by simp only; omega) (.slice A q c)
  exact ⟨A, c, l, G, gc, by rw [hq], h.keep hz, rfl, hA, by omega, ⟨txs_put hn hc1 (fun s e => by cases e) _, hfr⟩, hz, fun _ _ ha => ha⟩

set_option maxRecDepth 100000 in
set_option maxHeartbeats 4000000 in
theorem do_0 (w : World) (A : Option Addr) (c q k : Nat) (l : List Tg) (p : ByteArray) (x n : Int) (B : Option Addr) (m d : Nat) (hq : l.length = q) (h : Ths w A l) (hp : p.size < 4294967281) (hA : A = none → c = 0) (hc : q ≤ c) (hl : q ≤ 999999) (hk : k % 8 = 0) :
    Calls Tryz.prog 10 #[tv A q c, .agg #[.int .u8 (k : Int), .string p, .int .i64 x, .int .i64 n, .slice B m d]] w (DoR w A l ((addT (ths l) p false).1, (addT (ths l) p false).2, ⟨#[]⟩, [])) := by
  have hb0 := (((Below.refl w.heap.size w).alloc (Nat.le_refl _) (.cells #[.slice A q c] 29)).alloc (by simp) (.cells #[.int .u8 (k : Int), .string p, .int .i64 x, .int .i64 n, .slice B m d] 32)).alloc (by simp; omega) (.cells #[.slice none 0 0] 29)
  have HB0 := Lib.hid hb0
  have HX0 := Lib.hid (bx_three w (.slice A q c) (.slice none 0 0) #[.int .u8 (k : Int), .string p, .int .i64 x, .int .i64 n, .slice B m d] 29 29 32)
  have HT := Lib.hid (h.keep hb0)
  have HP := Lib.hid (h.apart (Nat.le_succ_of_le (Nat.le_succ w.heap.size)))
  have e0 : ((k : Int) % 8 == 0) = true := by simp; omega
  have e1 : ((k : Int) % 8 == 1) = false := by simp; omega
  have HQ := Lib.hid hq
  clear hb0 h hk hq
  go_enter Tryz.func10, Tryz.ntmps10
  go_wp2_with fail
  generalize ((w.alloc (.cells #[.slice A q c] 29)).alloc (.cells #[.int .u8 (k : Int), .string p, .int .i64 x, .int .i64 n, .slice B m d] 32)).alloc (.cells #[.slice none 0 0] 29) = w1 at *
  obtain ⟨b1, hb1⟩ : ∃ b1, b1 = w.heap.size + 1 + 1 := ⟨_, rfl⟩
  rw [← hb1] at HX0 ⊢
  have HP1 := Lib.hid (show Apart b1 A l by rw [hb1]; exact HP.out)
  have HB1 := Lib.hid hb1
  clear hb1
  refine (add_any w1 A c q l p false HQ.out HT.out hp hA hc hl).mono ?_
  rintro e w2 ⟨A', c', l', rfl, ht, hl', hA', hc', hb, hap⟩
  have HF := Lib.hid (do_fin HB0.out HB1.out HX0.out.l1 HP1.out ht hl' hA' hc' hb hap (.cells #[.slice A' l'.length c'] 29))
  have HX2 := HX0.out.keep hb
  clear ht hl' hA' hc' hb hap
  have hc1 := HX2.c1
  have hf1 := HX2.f1
  have hl1 := HX2.l1
  have hn1 : b1 ≠ w2.heap.size := by omega
  have hs1 := (World.cell?_alloc_old (w2.setCell ⟨b1, 0, none⟩ (.slice A' l'.length c')) (.cells #[.slice A' l'.length c'] 29) ⟨b1, 0, none⟩ (by simp; omega)).trans (World.cell?_setCell_same w2 ⟨b1, 0, none⟩ (.slice A' l'.length c') hc1)
  clear HX2
  generalize l'.length = u at *
  generalize addT (ths l) p false = r at *
  go_wp2
  refine bodyPost_ret (v := .tuple #[tv A' u c', .int .i64 r.2, .string ⟨#[]⟩, .slice none 0 0]) ?_ rfl HF.out
  simp [results, Tryz.results10, go_sem, hs1]

set_option maxRecDepth 100000 in
set_option maxHeartbeats 4000000 in
theorem do_1 (w : World) (A : Option Addr) (c q k : Nat) (l : List Tg) (p : ByteArray) (x n : Int) (B : Option Addr) (m d : Nat) (hq : l.length = q) (h : Ths w A l) (hp : p.size < 4294967281) (hA : A = none → c = 0) (hc : q ≤ c) (hl : q ≤ 999999) (hk : k % 8 = 1) :
    Calls Tryz.prog 10 #[tv A q c, .agg #[.int .u8 (k : Int), .string p, .int .i64 x, .int .i64 n, .slice B m d]] w (DoR w A l ((addT (ths l) p true).1, (addT (ths l) p true).2, ⟨#[]⟩, [])) := by
  have hb0 := (((Below.refl w.heap.size w).alloc (Nat.le_refl _) (.cells #[.slice A q c] 29)).alloc (by simp) (.cells #[.int .u8 (k : Int), .string p, .int .i64 x, .int .i64 n, .slice B m d] 32)).alloc (by simp; omega) (.cells #[.slice none 0 0] 29)
  have HB0 := Lib.hid hb0
  have HX0 := Lib.hid (bx_three w (.slice A q c) (.slice none 0 0) #[.int .u8 (k : Int), .string p, .int .i64 x, .int .i64 n, .slice B m d] 29 29 32)
  have HT := Lib.hid (h.keep hb0)
  have HP := Lib.hid (h.apart (Nat.le_succ_of_le (Nat.le_succ w.heap.size)))
  have e0 : ((k : Int) % 8 == 0) = false := by simp; omega
  have e1 : ((k : Int) % 8 == 1) = true := by simp; omega
  have HQ := Lib.hid hq
  clear hb0 h hk hq
  go_enter Tryz.func10, Tryz.ntmps10
  go_wp2_with fail
  generalize ((w.alloc (.cells #[.slice A q c] 29)).alloc (.cells #[.int .u8 (k : Int), .string p, .int .i64 x, .int .i64 n, .slice B m d] 32)).alloc (.cells #[.slice none 0 0] 29) = w1 at *
  obtain ⟨b1, hb1⟩ : ∃ b1, b1 = w.heap.size + 1 + 1 := ⟨_, rfl⟩
  rw [← hb1] at HX0 ⊢
  have HP1 := Lib.hid (show Apart b1 A l by rw [hb1]; exact HP.out)
  have HB1 := Lib.hid hb1
  clear hb1
  refine (add_any w1 A c q l p true HQ.out HT.out hp hA hc hl).mono ?_
  rintro e w2 ⟨A', c', l', rfl, ht, hl', hA', hc', hb, hap⟩
  have HF := Lib.hid (do_fin HB0.out HB1.out HX0.out.l1 HP1.out ht hl' hA' hc' hb hap (.cells #[.slice A' l'.length c'] 29))
  have HX2 := HX0.out.keep hb
  clear ht hl' hA' hc' hb hap
  have hc1 := HX2.c1
  have hf1 := HX2.f1
  have hl1 := HX2.l1
  have hn1 : b1 ≠ w2.heap.size := by omega
  have hs1 := (World.cell?_alloc_old (w2.setCell ⟨b1, 0, none⟩ (.slice A' l'.length c')) (.cells #[.slice A' l'.length c'] 29) ⟨b1, 0, none⟩ (by simp; omega)).trans (World.cell?_setCell_same w2 ⟨b1, 0, none⟩ (.slice A' l'.length c') hc1)
  clear HX2
  generalize l'.length = u at *
  generalize addT (ths l) p true = r at *
  go_wp2
  refine bodyPost_ret (v := .tuple #[tv A' u c', .int .i64 r.2, .string ⟨#[]⟩, .slice none 0 0]) ?_ rfl HF.out
  simp [results, Tryz.results10, go_sem, hs1]

set_option maxRecDepth 100000 in
set_option maxHeartbeats 4000000 in
theorem do_3 (w : World) (A : Option Addr) (c q k : Nat) (l : List Tg) (p : ByteArray) (x n : Int) (B : Option Addr) (m d : Nat) (hq : l.length = q) (h : Ths w A l) (hp : p.size < 4294967281) (hA : A = none → c = 0) (hc : q ≤ c) (hk : k % 8 = 3) :
    Calls Tryz.prog 10 #[tv A q c, .agg #[.int .u8 (k : Int), .string p, .int .i64 x, .int .i64 n, .slice B m d]] w (DoR w A l ((truncT (ths l) p x).1, (truncT (ths l) p x).2, ⟨#[]⟩, [])) := by
  have hb0 := (((Below.refl w.heap.size w).alloc (Nat.le_refl _) (.cells #[.slice A q c] 29)).alloc (by simp) (.cells #[.int .u8 (k : Int), .string p, .int .i64 x, .int .i64 n, .slice B m d] 32)).alloc (by simp; omega) (.cells #[.slice none 0 0] 29)
  have HB0 := Lib.hid hb0
  have HX0 := Lib.hid (bx_three w (.slice A q c) (.slice none 0 0) #[.int .u8 (k : Int), .string p, .int .i64 x, .int .i64 n, .slice B m d] 29 29 32)
  have HT := Lib.hid (h.keep hb0)
  have HP := Lib.hid (h.apart (Nat.le_succ_of_le (Nat.le_succ w.heap.size)))
  have e0 : ((k : Int) % 8 == 0) = false := by simp; omega
  have e1 : ((k : Int) % 8 == 1) = false := by simp; omega
  have e2 : ((k : Int) % 8 == 2) = false := by simp; omega
  have e3 : ((k : Int) % 8 == 3) = true := by simp; omega
  have HQ := Lib.hid hq
  clear hb0 h hk hq
  go_enter Tryz.func10, Tryz.ntmps10
  go_wp2_with fail
  generalize ((w.alloc (.cells #[.slice A q c] 29)).alloc (.cells #[.int .u8 (k : Int), .string p, .int .i64 x, .int .i64 n, .slice B m d] 32)).alloc (.cells #[.slice none 0 0] 29) = w1 at *
  obtain ⟨b1, hb1⟩ : ∃ b1, b1 = w.heap.size + 1 + 1 := ⟨_, rfl⟩
  rw [← hb1] at HX0 ⊢
  have HP1 := Lib.hid (show Apart b1 A l by rw [hb1]; exact HP.out)
  have HB1 := Lib.hid hb1
  clear hb1
  refine (trunc_any w1 A c q l p x HQ.out HT.out hp hA hc).mono ?_
  rintro e w2 ⟨A', c', l', rfl, ht, hl', hA', hc', hb, hap⟩
  have HF := Lib.hid (do_fin HB0.out HB1.out HX0.out.l1 HP1.out ht hl' hA' hc' hb hap (.cells #[.slice A' l'.length c'] 29))
  have HX2 := HX0.out.keep hb
  clear ht hl' hA' hc' hb hap
  have hc1 := HX2.c1
  have hf1 := HX2.f1
  have hl1 := HX2.l1
  have hn1 : b1 ≠ w2.heap.size := by omega
  have hs1 := (World.cell?_alloc_old (w2.setCell ⟨b1, 0, none⟩ (.slice A' l'.length c')) (.cells #[.slice A' l'.length c'] 29) ⟨b1, 0, none⟩ (by simp; omega)).trans (World.cell?_setCell_same w2 ⟨b1, 0, none⟩ (.slice A' l'.length c') hc1)
  clear HX2
  generalize l'.length = u at *
  generalize truncT (ths l) p x = r at *
  go_wp2
  refine bodyPost_ret (v := .tuple #[tv A' u c', .int .i64 r.2, .string ⟨#[]⟩, .slice none 0 0]) ?_ rfl HF.out
  simp [results, Tryz.results10, go_sem, hs1]

set_option maxRecDepth 100000 in
set_option maxHeartbeats 4000000 in
theorem do_4 (w : World) (A : Option Addr) (c q k : Nat) (l : List Tg) (p : ByteArray) (x n : Int) (B : Option Addr) (m d : Nat) (hq : l.length = q) (h : Ths w A l) (hp : p.size < 4294967281) (hA : A = none → c = 0) (hc : q ≤ c) (hk : k % 8 = 4) :
    Calls Tryz.prog 10 #[tv A q c, .agg #[.int .u8 (k : Int), .string p, .int .i64 x, .int .i64 n, .slice B m d]] w (DoR w A l ((unlinkT (ths l) p).1, (unlinkT (ths l) p).2, ⟨#[]⟩, [])) := by
  have hb0 := (((Below.refl w.heap.size w).alloc (Nat.le_refl _) (.cells #[.slice A q c] 29)).alloc (by simp) (.cells #[.int .u8 (k : Int), .string p, .int .i64 x, .int .i64 n, .slice B m d] 32)).alloc (by simp; omega) (.cells #[.slice none 0 0] 29)
  have HB0 := Lib.hid hb0
  have HX0 := Lib.hid (bx_three w (.slice A q c) (.slice none 0 0) #[.int .u8 (k : Int), .string p, .int .i64 x, .int .i64 n, .slice B m d] 29 29 32)
  have HT := Lib.hid (h.keep hb0)
  have HP := Lib.hid (h.apart (Nat.le_succ_of_le (Nat.le_succ w.heap.size)))
  have e0 : ((k : Int) % 8 == 0) = false := by simp; omega
  have e1 : ((k : Int) % 8 == 1) = false := by simp; omega
  have e2 : ((k : Int) % 8 == 2) = false := by simp; omega
  have e3 : ((k : Int) % 8 == 3) = false := by simp; omega
  have e4 : ((k : Int) % 8 == 4) = true := by simp; omega
  have HQ := Lib.hid hq
  clear hb0 h hk hq
  go_enter Tryz.func10, Tryz.ntmps10
  go_wp2_with fail
  generalize ((w.alloc (.cells #[.slice A q c] 29)).alloc (.cells #[.int .u8 (k : Int), .string p, .int .i64 x, .int .i64 n, .slice B m d] 32)).alloc (.cells #[.slice none 0 0] 29) = w1 at *
  obtain ⟨b1, hb1⟩ : ∃ b1, b1 = w.heap.size + 1 + 1 := ⟨_, rfl⟩
  rw [← hb1] at HX0 ⊢
  have HP1 := Lib.hid (show Apart b1 A l by rw [hb1]; exact HP.out)
  have HB1 := Lib.hid hb1
  clear hb1
  refine (unlink_any w1 A c q l p HQ.out HT.out hp hA hc).mono ?_
  rintro e w2 ⟨A', c', l', rfl, ht, hl', hA', hc', hb, hap⟩
  have HF := Lib.hid (do_fin HB0.out HB1.out HX0.out.l1 HP1.out ht hl' hA' hc' hb hap (.cells #[.slice A' l'.length c'] 29))
  have HX2 := HX0.out.keep hb
  clear ht hl' hA' hc' hb hap
  have hc1 := HX2.c1
  have hf1 := HX2.f1
  have hl1 := HX2.l1
  have hn1 : b1 ≠ w2.heap.size := by omega
  have hs1 := (World.cell?_alloc_old (w2.setCell ⟨b1, 0, none⟩ (.slice A' l'.length c')) (.cells #[.slice A' l'.length c'] 29) ⟨b1, 0, none⟩ (by simp; omega)).trans (World.cell?_setCell_same w2 ⟨b1, 0, none⟩ (.slice A' l'.length c') hc1)
  clear HX2
  generalize l'.length = u at *
  generalize unlinkT (ths l) p = r at *
  go_wp2
  refine bodyPost_ret (v := .tuple #[tv A' u c', .int .i64 r.2, .string ⟨#[]⟩, .slice none 0 0]) ?_ rfl HF.out
  simp [results, Tryz.results10, go_sem, hs1]

set_option maxRecDepth 100000 in
set_option maxHeartbeats 4000000 in
theorem do_5 (w : World) (A : Option Addr) (c q k : Nat) (l : List Tg) (p : ByteArray) (x n : Int) (B : Option Addr) (m d : Nat) (hq : l.length = q) (h : Ths w A l) (hp : p.size < 4294967281) (hA : A = none → c = 0) (hc : q ≤ c) (hl : q ≤ 100000) (hk : k % 8 = 5) :
    Calls Tryz.prog 10 #[tv A q c, .agg #[.int .u8 (k : Int), .string p, .int .i64 x, .int .i64 n, .slice B m d]] w (DoR w A l ((rmdirT (ths l) p).1, (rmdirT (ths l) p).2, ⟨#[]⟩, [])) := by
  have hb0 := (((Below.refl w.heap.size w).alloc (Nat.le_refl _) (.cells #[.slice A q c] 29)).alloc (by simp) (.cells #[.int .u8 (k : Int), .string p, .int .i64 x, .int .i64 n, .slice B m d] 32)).alloc (by simp; omega) (.cells #[.slice none 0 0] 29)
  have HB0 := Lib.hid hb0
  have HX0 := Lib.hid (bx_three w (.slice A q c) (.slice none 0 0) #[.int .u8 (k : Int), .string p, .int .i64 x, .int .i64 n, .slice B m d] 29 29 32)
  have HT := Lib.hid (h.keep hb0)
  have HP := Lib.hid (h.apart (Nat.le_succ_of_le (Nat.le_succ w.heap.size)))
  have e0 : ((k : Int) % 8 == 0) = false := by simp; omega
  have e1 : ((k : Int) % 8 == 1) = false := by simp; omega
  have e2 : ((k : Int) % 8 == 2) = false := by simp; omega
  have e3 : ((k : Int) % 8 == 3) = false := by simp; omega
  have e4 : ((k : Int) % 8 == 4) = false := by simp; omega
  have e5 : ((k : Int) % 8 == 5) = true := by simp; omega
  have HQ := Lib.hid hq
  clear hb0 h hk hq
  go_enter Tryz.func10, Tryz.ntmps10
  go_wp2_with fail
  generalize ((w.alloc (.cells #[.slice A q c] 29)).alloc (.cells #[.int .u8 (k : Int), .string p, .int .i64 x, .int .i64 n, .slice B m d] 32)).alloc (.cells #[.slice none 0 0] 29) = w1 at *
  obtain ⟨b1, hb1⟩ : ∃ b1, b1 = w.heap.size + 1 + 1 := ⟨_, rfl⟩
  rw [← hb1] at HX0 ⊢
  have HP1 := Lib.hid (show Apart b1 A l by rw [hb1]; exact HP.out)
  have HB1 := Lib.hid hb1
  clear hb1
  refine (rmdir_any w1 A c q l p HQ.out HT.out hp hA hc hl).mono ?_
  rintro e w2 ⟨A', c', l', rfl, ht, hl', hA', hc', hb, hap⟩
  have HF := Lib.hid (do_fin HB0.out HB1.out HX0.out.l1 HP1.out ht hl' hA' hc' hb hap (.cells #[.slice A' l'.length c'] 29))
  have HX2 := HX0.out.keep hb
  clear ht hl' hA' hc' hb hap
  have hc1 := HX2.c1
  have hf1 := HX2.f1
  have hl1 := HX2.l1
  have hn1 : b1 ≠ w2.heap.size := by omega
  have hs1 := (World.cell?_alloc_old (w2.setCell ⟨b1, 0, none⟩ (.slice A' l'.length c')) (.cells #[.slice A' l'.length c'] 29) ⟨b1, 0, none⟩ (by simp; omega)).trans (World.cell?_setCell_same w2 ⟨b1, 0, none⟩ (.slice A' l'.length c') hc1)
  clear HX2
  generalize l'.length = u at *
  generalize rmdirT (ths l) p = r at *
  go_wp2
  refine bodyPost_ret (v := .tuple #[tv A' u c', .int .i64 r.2, .string ⟨#[]⟩, .slice none 0 0]) ?_ rfl HF.out
  simp [results, Tryz.results10, go_sem, hs1]

set_option maxRecDepth 100000 in
set_option maxHeartbeats 4000000 in
theorem do_2 (w : World) (A : Option Addr) (c q k : Nat) (l : List Tg) (p : ByteArray) (x n : Int) (B : Option Addr) (bs : List Nat) (m d : Nat) (hq : l.length = q) (h : Ths w A l) (hp : p.size < 4294967281) (hA : A = none → c = 0) (hc : q ≤ c) (hm : bs.length = m) (hB : Crc.Bts w B bs) (hv : m ≤ 1000000) (hdat : ∀ g ∈ l, g.2.2.2.2.size ≤ 1000000000) (hk : k % 8 = 2) :
    Calls Tryz.prog 10 #[tv A q c, .agg #[.int .u8 (k : Int), .string p, .int .i64 x, .int .i64 n, .slice B m d]] w (DoR w A l ((writeT (ths l) p x (Crc.str bs)).1, (writeT (ths l) p x (Crc.str bs)).2, ⟨#[]⟩, [])) := by
  have hb0 := (((Below.refl w.heap.size w).alloc (Nat.le_refl _) (.cells #[.slice A q c] 29)).alloc (by simp) (.cells #[.int .u8 (k : Int), .string p, .int .i64 x, .int .i64 n, .slice B m d] 32)).alloc (by simp; omega) (.cells #[.slice none 0 0] 29)
  have HB0 := Lib.hid hb0
  have HX0 := Lib.hid (bx_three w (.slice A q c) (.slice none 0 0) #[.int .u8 (k : Int), .string p, .int .i64 x, .int .i64 n, .slice B m d] 29 29 32)
  have HT := Lib.hid (h.keep hb0)
  have HP := Lib.hid (h.apart (Nat.le_succ_of_le (Nat.le_succ w.heap.size)))
  have hcv := Crc.conv_str d (hB.keep hb0)
  rw [hm] at hcv
  have HV := Lib.hid (show (Crc.str bs).size ≤ 1000000 by rw [Crc.str_size, hm]; exact hv)
  have hv2 : (Crc.str bs).size ≤ 9223372036854775807 := Nat.le_trans HV.out (by omega)
  have e0 : ((k : Int) % 8 == 0) = false := by simp; omega
  have e1 : ((k : Int) % 8 == 1) = false := by simp; omega
  have e2 : ((k : Int) % 8 == 2) = true := by simp; omega
  have HQ := Lib.hid hq
  have HD := Lib.hid hdat
  clear hb0 h hk hq hm hB hv hdat
  generalize Crc.str bs = S at *
  go_enter Tryz.func10, Tryz.ntmps10
  go_wp2_with fail
  generalize ((w.alloc (.cells #[.slice A q c] 29)).alloc (.cells #[.int .u8 (k : Int), .string p, .int .i64 x, .int .i64 n, .slice B m d] 32)).alloc (.cells #[.slice none 0 0] 29) = w1 at *
  obtain ⟨b1, hb1⟩ : ∃ b1, b1 = w.heap.size + 1 + 1 := ⟨_, rfl⟩
  rw [← hb1] at HX0 ⊢
  have HP1 := Lib.hid (show Apart b1 A l by rw [hb1]; exact HP.out)
  have HB1 := Lib.hid hb1
  clear hb1
  refine (write_any w1 A c q l p x S HQ.out HT.out hp hA hc HV.out HD.out).mono ?_
  rintro e w2 ⟨A', c', l', rfl, ht, hl', hA', hc', hb, hap⟩
  have HF := Lib.hid (do_fin HB0.out HB1.out HX0.out.l1 HP1.out ht hl' hA' hc' hb hap (.cells #[.slice A' l'.length c'] 29))
  have HX2 := HX0.out.keep hb
  clear ht hl' hA' hc' hb hap
  have hc1 := HX2.c1
  have hf1 := HX2.f1
  have hl1 := HX2.l1
  have hn1 : b1 ≠ w2.heap.size := by omega
  have hs1 := (World.cell?_alloc_old (w2.setCell ⟨b1, 0, none⟩ (.slice A' l'.length c')) (.cells #[.slice A' l'.length c'] 29) ⟨b1, 0, none⟩ (by simp; omega)).trans (World.cell?_setCell_same w2 ⟨b1, 0, none⟩ (.slice A' l'.length c') hc1)
  clear HX2
  generalize l'.length = u at *
  generalize writeT (ths l) p x S = r at *
  go_wp2
  refine bodyPost_ret (v := .tuple #[tv A' u c', .int .i64 r.2, .string ⟨#[]⟩, .slice none 0 0]) ?_ rfl HF.out
  simp [results, Tryz.results10, go_sem, hs1]

set_option maxRecDepth 100000 in
set_option maxHeartbeats 4000000 in
theorem do_6 (w : World) (A : Option Addr) (c q k : Nat) (l : List Tg) (p : ByteArray) (x n : Int) (B : Option Addr) (m d : Nat) (hq : l.length = q) (h : Ths w A l) (hp : p.size < 4294967281) (hA : A = none → c = 0) (hc : q ≤ c) (hk : k % 8 = 6) :
    Calls Tryz.prog 10 #[tv A q c, .agg #[.int .u8 (k : Int), .string p, .int .i64 x, .int .i64 n, .slice B m d]] w (DoR w A l (ths l, (readT (ths l) p x n).2, (readT (ths l) p x n).1, [])) := by
  have hb0 := (((Below.refl w.heap.size w).alloc (Nat.le_refl _) (.cells #[.slice A q c] 29)).alloc (by simp) (.cells #[.int .u8 (k : Int), .string p, .int .i64 x, .int .i64 n, .slice B m d] 32)).alloc (by simp; omega) (.cells #[.slice none 0 0] 29)
  have HB0 := Lib.hid hb0
  have HX0 := Lib.hid (bx_three w (.slice A q c) (.slice none 0 0) #[.int .u8 (k : Int), .string p, .int .i64 x, .int .i64 n, .slice B m d] 29 29 32)
  have HT := Lib.hid (h.keep hb0)
  have HW := Lib.hid h
  have e0 : ((k : Int) % 8 == 0) = false := by simp; omega
  have e1 : ((k : Int) % 8 == 1) = false := by simp; omega
  have e2 : ((k : Int) % 8 == 2) = false := by simp; omega
  have e3 : ((k : Int) % 8 == 3) = false := by simp; omega
  have e4 : ((k : Int) % 8 == 4) = false := by simp; omega
  have e5 : ((k : Int) % 8 == 5) = false := by simp; omega
  have e6 : ((k : Int) % 8 == 6) = true := by simp; omega
  have HQ := Lib.hid hq
  clear hb0 h hk hq
  go_enter Tryz.func10, Tryz.ntmps10
  go_wp2_with fail
  generalize ((w.alloc (.cells #[.slice A q c] 29)).alloc (.cells #[.int .u8 (k : Int), .string p, .int .i64 x, .int .i64 n, .slice B m d] 32)).alloc (.cells #[.slice none 0 0] 29) = w1 at *
  obtain ⟨b1, hb1⟩ : ∃ b1, b1 = w.heap.size + 1 + 1 := ⟨_, rfl⟩
  rw [← hb1] at HX0 ⊢
  have HB1 := Lib.hid hb1
  clear hb1
  refine (read_any w1 A c q l p x n HQ.out HT.out hp).mono ?_
  rintro e w2 ⟨rfl, hb⟩
  have HX2 := HX0.out.keep hb
  have HF := Lib.hid (do_fin2 (gc := 0) HW.out HQ.out hA hc (HB0.out.trans (hb.mono HB0.out.size)) HB1.out HX2.c1 (Pat.txs_nil w2 none) (fr_none w) (readT (ths l) p x n).2 (readT (ths l) p x n).1)
  have hc0 := HX2.c0
  have hc1 := HX2.c1
  have hf1 := HX2.f1
  have hs1 := World.cell?_setCell_same w2 ⟨b1, 0, none⟩ (.slice A q c) hc1
  clear HX2 hb 
  generalize readT (ths l) p x n = r at *
  go_wp2
  refine bodyPost_ret (v := .tuple #[tv A q c, .int .i64 r.2, .string r.1, .slice none 0 0]) ?_ rfl HF.out
  simp [results, Tryz.results10, go_sem, hs1]

set_option maxRecDepth 100000 in
set_option maxHeartbeats 4000000 in
theorem do_7 (w : World) (A : Option Addr) (c q k : Nat) (l : List Tg) (p : ByteArray) (x n : Int) (B : Option Addr) (m d : Nat) (hq : l.length = q) (h : Ths w A l) (hp : p.size < 4294967281) (hA : A = none → c = 0) (hc : q ≤ c) (hl : q ≤ 100000) (hk : k % 8 = 7) :
    Calls Tryz.prog 10 #[tv A q c, .agg #[.int .u8 (k : Int), .string p, .int .i64 x, .int .i64 n, .slice B m d]] w (DoR w A l (ths l, (listT (ths l) p).2, ⟨#[]⟩, (listT (ths l) p).1)) := by
  have hb0 := (((Below.refl w.heap.size w).alloc (Nat.le_refl _) (.cells #[.slice A q c] 29)).alloc (by simp) (.cells #[.int .u8 (k : Int), .string p, .int .i64 x, .int .i64 n, .slice B m d] 32)).alloc (by simp; omega) (.cells #[.slice none 0 0] 29)
  have HB0 := Lib.hid hb0
  have HX0 := Lib.hid (bx_three w (.slice A q c) (.slice none 0 0) #[.int .u8 (k : Int), .string p, .int .i64 x, .int .i64 n, .slice B m d] 29 29 32)
  have HT := Lib.hid (h.keep hb0)
  have HW := Lib.hid h
  have e0 : ((k : Int) % 8 == 0) = false := by simp; omega
  have e1 : ((k : Int) % 8 == 1) = false := by simp; omega
  have e2 : ((k : Int) % 8 == 2) = false := by simp; omega
  have e3 : ((k : Int) % 8 == 3) = false := by simp; omega
  have e4 : ((k : Int) % 8 == 4) = false := by simp; omega
  have e5 : ((k : Int) % 8 == 5) = false := by simp; omega
  have e6 : ((k : Int) % 8 == 6) = false := by simp; omega
  have HQ := Lib.hid hq
  clear hb0 h hk hq
  go_enter Tryz.func10, Tryz.ntmps10
  go_wp2_with fail
  generalize ((w.alloc (.cells #[.slice A q c] 29)).alloc (.cells #[.int .u8 (k : Int), .string p, .int .i64 x, .int .i64 n, .slice B m d] 32)).alloc (.cells #[.slice none 0 0] 29) = w1 at *
  obtain ⟨b1, hb1⟩ : ∃ b1, b1 = w.heap.size + 1 + 1 := ⟨_, rfl⟩
  rw [← hb1] at HX0 ⊢
  have HB1 := Lib.hid hb1
  clear hb1
  refine (list_any w1 A c q l p HQ.out HT.out hp hl).mono ?_
  rintro e w2 ⟨G, gc, rfl, hn, hb⟩
  have HX2 := HX0.out.keep hb
  have HF := Lib.hid (do_fin2 (gc := gc) HW.out HQ.out hA hc (HB0.out.trans (hb.mono HB0.out.size)) HB1.out HX2.c1 hn.1 (hn.2.back HB0.out.size) (listT (ths l) p).2 ⟨#[]⟩)
  have hc0 := HX2.c0
  have hc1 := HX2.c1
  have hf1 := HX2.f1
  have hs1 := World.cell?_setCell_same w2 ⟨b1, 0, none⟩ (.slice A q c) hc1
  clear HX2 hb hn
  generalize listT (ths l) p = r at *
  generalize r.1.length = u at *
  go_wp2
  refine bodyPost_ret (v := .tuple #[tv A q c, .int .i64 r.2, .string ⟨#[]⟩, .slice G u gc]) ?_ rfl HF.out
  simp [results, Tryz.results10, go_sem, hs1]

/-- an act, of whatever kind -/
theorem do_any (w : World) (A : Option Addr) (c q k : Nat) (l : List Tg) (p : ByteArray) (x n : Int) (B : Option Addr) (bs : List Nat) (m d : Nat) (hq : l.length = q) (h : Ths w A l) (hp : p.size < 4294967281) (hA : A = none → c = 0) (hc : q ≤ c) (hl : q ≤ 100000) (hm : bs.length = m) (hB : Crc.Bts w B bs) (hv : m ≤ 1000000) (hdat : ∀ g ∈ l, g.2.2.2.2.size ≤ 1000000000) :
    Calls Tryz.prog 10 #[tv A q c, .agg #[.int .u8 (k : Int), .string p, .int .i64 x, .int .i64 n, .slice B m d]] w (DoR w A l (doT (ths l) k p x n (Crc.str bs))) := by
  unfold doT
  have hk : k % 8 < 8 := Nat.mod_lt _ (by omega)
  by_cases h0 : k % 8 = 0
  · rw [if_pos h0]; exact do_0 w A c q k l p x n B m d hq h hp hA hc (by omega) h0
  rw [if_neg h0]
  by_cases h1 : k % 8 = 1
  · rw [if_pos h1]; exact do_1 w A c q k l p x n B m d hq h hp hA hc (by omega) h1
  rw [if_neg h1]
  by_cases h2 : k % 8 = 2
  · rw [if_pos h2]; exact do_2 w A c q k l p x n B bs m d hq h hp hA hc hm hB hv hdat h2
  rw [if_neg h2]
  by_cases h3 : k % 8 = 3
  · rw [if_pos h3]; exact do_3 w A c q k l p x n B m d hq h hp hA hc h3
  rw [if_neg h3]
  by_cases h4 : k % 8 = 4
  · rw [if_pos h4]; exact do_4 w A c q k l p x n B m d hq h hp hA hc h4
  rw [if_neg h4]
  by_cases h5 : k % 8 = 5
  · rw [if_pos h5]; exact do_5 w A c q k l p x n B m d hq h hp hA hc hl h5
  rw [if_neg h5]
  by_cases h6 : k % 8 = 6
  · rw [if_pos h6]; exact do_6 w A c q k l p x n B m d hq h hp hA hc h6
  rw [if_neg h6]
  exact do_7 w A c q k l p x n B m d hq h hp hA hc hl (by omega)
end Tre
end Go.Proofs.YtkhkcfbacnkcnaaGreatDoor
/- Whether a tree's items are the document's, in order. -/
namespace Go.Proofs.YtkhkcfbacnkcnaaGreatDoor
open Go.RowKit Go.MapKept
namespace Tre
open Pat (Txs)

/-- an item of a tree: a path, whether it is a directory, bytes -/
structure It where
  p : ByteArray
  d : Bool
  a : Option Addr
  c : Nat
  b : List Nat
/-- items as they lie -/
structure Its (w : World) (A : Option Addr) (l : List It) : Prop where
  len : l.length ≤ 9223372036854775807
  ok : ∀ g ∈ l, g.p.size ≤ 9223372036854775807 ∧ g.b.length ≤ g.c ∧ Crc.Bts w g.a g.b ∧ (g.a = none → g.c = 0)
  at' : ∀ j (h : j < l.length), ∃ b o, A = some ⟨b, o, none⟩ ∧ b < w.heap.size ∧ w.cell? ⟨b, o + j * 3, none⟩ = some (.string l[j].p) ∧ w.cell? ⟨b, o + j * 3 + 1, none⟩ = some (.bool l[j].d) ∧ w.cell? ⟨b, o + j * 3 + 2, none⟩ = some (.slice l[j].a l[j].b.length l[j].c)
theorem Its.keep {w w' : World} {A : Option Addr} {l : List It} (h : Its w A l) (hb : Below w.heap.size w w') : Its w' A l :=
  ⟨h.len, fun g hg => by
    obtain ⟨h1, h2, h3, h4⟩ := h.ok g hg
    exact ⟨h1, h2, h3.keep hb, h4⟩, fun j hj => by
    obtain ⟨b, o, e, hlt, h0, h1, h2⟩ := h.at' j hj
    exact ⟨b, o, e, Nat.lt_of_lt_of_le hlt hb.size, (hb.cell (p := ⟨b, o + j * 3, none⟩) hlt).trans h0, (hb.cell (p := ⟨b, o + j * 3 + 1, none⟩) hlt).trans h1, (hb.cell (p := ⟨b, o + j * 3 + 2, none⟩) hlt).trans h2⟩⟩
/-- an item is a thing's -/
def eqI (g : It) (x : Th) : Prop := g.p = jnT x.1 ∧ g.d = x.2.1 ∧ Crc.str g.b = x.2.2
instance (g : It) (x : Th) : Decidable (eqI g x) := by unfold eqI; infer_instance
/-- items are the things of a tree, in order -/
def smT (its : List It) (t : List Th) : Bool := decide (its.length = (allT t).length ∧ ∀ j, (h : j < its.length) → (h2 : j < (allT t).length) → eqI its[j] (allT t)[j])

set_option maxRecDepth 100000 in
set_option maxHeartbeats 4000000 in
/-- items that are the things, in order, are found to be so -/
theorem lawSame_yes (w : World) (I A : Option Addr) (ic c q : Nat) (its : List It) (l : List Tg) (hq : l.length = q) (h : Ths w A l) (hi : Its w I its) (hl : q ≤ 100000) (hs : smT its (ths l) = true) :
    Calls Tryz.prog 13 #[.slice I its.length ic, tv A q c] w fun e w' => e = .returned (.bool true) ∧ Below w.heap.size w w' := by
  have HB0 := Lib.hid ((Below.refl w.heap.size w).alloc (Nat.le_refl _) (.cells #[.slice A q c] 29))
  have hc0 : (w.alloc (.cells #[.slice A q c] 29)).cell? ⟨w.heap.size, 0, none⟩ = some (.slice A q c) := Crc.alloc_cell w #[.slice A q c] 29 0
  have hl0 : w.heap.size < (w.alloc (.cells #[.slice A q c] 29)).heap.size := by simp
  have HT := Lib.hid (h.keep HB0.out)
  have HI := Lib.hid (hi.keep HB0.out)
  have HQ := Lib.hid hq
  have HSM := Lib.hid hs
  clear h hq hi hs
  go_enter Tryz.func13, Tryz.ntmps13
  go_upto_region 1 with fail
  generalize w.alloc (.cells #[.slice A q c] 29) = w1 at *
  go_wp2_with fail
  refine (all_any w1 A c q l HQ.out HT.out hl).mono ?_
  rintro e w2 ⟨G, gc, ls, rfl, hg, hls, hb2⟩
  have HB2 := Lib.hid (HB0.out.trans (hb2.mono HB0.out.size))
  have HI2 := Lib.hid (HI.out.keep hb2)
  have HG := Lib.hid hg
  have HS := Lib.hid (show smT its (ths l) = decide (its.length = ls.length ∧ ∀ j, (h : j < its.length) → (h2 : j < ls.length) → eqI its[j] ls[j].2.2) from by
    unfold smT
    rw [← hls]
    simp)
  have hi9 := HI2.out.len
  have hl9 := hg.len
  clear hc0 hl0 hg hls hb2 HT HI HB0
  by_cases hlen : its.length = ls.length
  · have hlen2 : ((its.length : Int) == (ls.length : Int)) = true := by simp; omega
    have HL := Lib.hid hlen
    rw [hlen]
    go_wp2
    go_loopw [17] (fun i wr => ∃ m : Nat, m ≤ ls.length ∧ i = .int .i64 (m : Int) ∧ Below w2.heap.size w2 wr ∧ ∀ j, (h : j < its.length) → (h2 : j < ls.length) → j < m → eqI its[j] ls[j].2.2) (fun i _ => ls.length - (intOf i).toNat)
    case atStart => exact ⟨0, Nat.zero_le _, rfl, Below.refl _ _, fun j _ _ h => by omega⟩
    case round =>
      obtain ⟨m, hm, rfl, hb, hgd⟩ := hrel
      have HGD := Lib.hid hgd
      have HB := Lib.hid hb
      clear hgd
      by_cases hlt : m < ls.length
      · have hlti : m < its.length := by have := HL.out; omega
        obtain ⟨b, o, rfl, hbl, h0, h1, h2⟩ := (HG.out.keep hb).at' m hlt
        obtain ⟨bi, oi, rfl, hbli, k0, k1, k2⟩ := (HI2.out.keep hb).at' m hlti
        have HN := Lib.hid (((HG.out.keep hb).nm _ (List.getElem_mem hlt)).1)
        have HOK := Lib.hid ((HI2.out.keep hb).ok _ (List.getElem_mem hlti))
        have HSZ := Lib.hid (HG.out.sz _ (List.getElem_mem hlt))
        have HST := Lib.hid (show eqI its[m] ls[m].2.2 → ∀ j, (h : j < its.length) → (h2 : j < ls.length) → j < m + 1 → eqI its[j] ls[j].2.2 from fun h j hj hj2 hj3 => by
          by_cases e : j = m
          · subst e
            exact h
          · exact HGD.out j hj hj2 (by omega))
        have HNO := Lib.hid (show ¬ eqI its[m] ls[m].2.2 → smT its (ths l) = false from fun h => by
          rw [HS.out]
          exact decide_eq_false (fun hf => h (hf.2 m hlti hlt)))
        clear hb
        generalize ls[m] = g at *
        generalize its[m] = t at *
        obtain ⟨ga, gx, gn, gd, s⟩ := g
        obtain ⟨tp, td, ta, tc0, tb⟩ := t
        simp only at h0 h1 h2 k0 k1 k2 HN HOK HSZ HST HNO
        have hbA := (Below.refl wr.heap.size wr).alloc (Nat.le_refl _) (.cells #[.slice ga gn.length gx, .bool gd, .string s] 93)
        have HBA := Lib.hid (HB.out.trans (hbA.mono HB.out.size))
        have HJ := Lib.hid (join_any (wr.alloc (.cells #[.slice ga gn.length gx, .bool gd, .string s] 93)).drew ga gx gn.length gn rfl (HN.out.keep hbA).drew)
        have hcv := Crc.conv_str tc0 (HOK.out.2.2.1.keep hbA)
        have hbD : Below wr.heap.size wr (wr.alloc (.cells #[.slice ga gn.length gx, .bool gd, .string s] 93)).drew := hbA.trans ((below_drew (Below.refl _ _)).mono hbA.size)
        have hcvd := Crc.conv_str tc0 (HOK.out.2.2.1.keep hbD)
        have HEQ := Lib.hid (show eqI ⟨tp, td, ta, tc0, tb⟩ (gn, gd, s) ↔ tp = jnT gn ∧ td = gd ∧ Crc.str tb = s from Iff.rfl)
        have HBD := Lib.hid (HB.out.trans (hbD.mono HB.out.size))
        have hti := HL.out
        have hj0 : (m : Int) < (its.length : Int) := by omega
        have hj1 : (m : Int) < (ls.length : Int) := by omega
        have hm0 : (0 : Int) ≤ (m : Int) := by omega
        clear hti hbA hbD
        generalize Crc.str tb = S at *
        generalize jnT gn = J at *
        generalize gn.length = gm at *
        generalize tb.length = tm at *
        by_cases c1 : tp = J
        · subst c1
          by_cases c2 : td = gd
          · subst c2
            by_cases c3 : S = s
            · subst c3
              have HST2 := Lib.hid (HST.out (HEQ.out.2 ⟨rfl, rfl, rfl⟩))
              clear HST HNO HEQ
              go_wp2_with fail
              go_region_held3 (fun W' => W'.cell? ⟨wr.heap.size, 0, none⟩ = some (.slice ga gm gx) ∧ W'.cell? ⟨wr.heap.size, 1, none⟩ = some (.bool td) ∧ W'.cell? ⟨wr.heap.size, 2, none⟩ = some (.string S) ∧ W'.cell? ⟨bi, oi + m * 3, none⟩ = some (.string tp) ∧ W'.cell? ⟨bi, oi + m * 3 + 1, none⟩ = some (.bool td) ∧ W'.cell? ⟨bi, oi + m * 3 + 2, none⟩ = some (.slice ta tm tc0) ∧ (convert 30 9 (.slice ta tm tc0)).run Tryz.prog W' = .ok (.string S) W') (go_keep)
                (first
                | (go_at_call 46
                   with_reducible refine HJ.out.mono ?_
                   rintro e w6 ⟨rfl, rfl⟩))
              go_wp2
              exact ⟨⟨m + 1, by omega, by go_num, HBD.out, HST2.out⟩, by simp [intOf]; omega⟩
            · exact absurd ((HNO.out (fun h => c3 (HEQ.out.1 h).2.2)).symm.trans HSM.out) (by decide)
          · exact absurd ((HNO.out (fun h => c2 (HEQ.out.1 h).2.1)).symm.trans HSM.out) (by decide)
        · exact absurd ((HNO.out (fun h => c1 (HEQ.out.1 h).1)).symm.trans HSM.out) (by decide)
      · obtain rfl : m = ls.length := by omega
        have HBZ := Lib.hid (HB2.out.trans (hb.mono HB2.out.size))
        clear hb
        go_wp2
        go_ret
        exact ⟨rfl, HBZ.out⟩
  · exact absurd (decide_eq_true_iff.1 (HS.out.symm.trans HSM.out)).1 hlen
end Tre
end Go.Proofs.YtkhkcfbacnkcnaaGreatDoor
/- The items that the program has found, and the names that lead to a directory, as they lie while it looks on. -/
namespace Go.Proofs.YtkhkcfbacnkcnaaGreatDoor
open Go.RowKit Go.MapKept
namespace Trk
open Tre (Nm Th It Its eqI smT allT jnT kidL kidT)

/-- a name more behind names: in their row, or in a new one -/
theorem app_keep {W : World} {B n c : Nat} {u : Value} {l : List ByteArray} (h : W.ownsRow B 9 1 u n (Pat.strs l)) (s : ByteArray) {ad : Addr} (had : W.cell? ad = some (.string s)) (hn : n ≤ 1000) (hB : B ≤ W.heap.size) :
    ∃ u' w', (Builtin.append_ #[33, 33] 33 #[u, .slice (some ad) 1 c]).run Tryz.prog W = .ok u' w' ∧ w'.ownsRow B 9 1 u' (n + 1) (Pat.strs (l ++ [s])) ∧ W.grownBy w' u.ownBlock ∧
      ((∃ g cap, u = .slice (some ⟨g, 0, none⟩) n cap ∧ u' = .slice (some ⟨g, 0, none⟩) (n + 1) cap) ∨ (W.grownBy w' none ∧ u'.ownBlock = some W.heap.size)) := by
  obtain ⟨i0, hi0, hz0, hz1, hz2⟩ := Pat.info_parts Pat.str_info
  have hln : l.length = n := by have := h.1; simpa [Pat.strs] using this
  have hst : Pat.strs (l ++ [s]) = Pat.strs l ++ [.string s] := by simp [Pat.strs]
  have hnews : ∀ j v, [Value.string s][j]? = some v → W.cell? (ad.add j) = some v := fun j v hj => by
    match j, hj with
    | 0, hj =>
      simp only [List.getElem?_cons_zero, Option.some.injEq] at hj
      subst hj
      have : ad.add 0 = ad := by cases ad; unfold Addr.add; split <;> simp_all
      rw [this]
      exact had
  have hlen : (Pat.strs l ++ [Value.string s]).length = (n + 1) * 1 := by simp [Pat.strs, hln]
  have grown : ∀ (old : Nat), (W.drew.alloc (.cells ((Pat.strs l).toArray ++ [Value.string s].toArray ++ Builtin.zeroCells (Value.string ByteArray.empty).cells (grownCap W (n + 1) old 9 - (n + 1))) 9)).ownsRow B 9 1 (.slice (some ⟨W.heap.size, 0, none⟩) (n + 1) (grownCap W (n + 1) old 9)) (n + 1) (Pat.strs (l ++ [s])) ∧
      ∀ row, W.grownBy (W.drew.alloc (.cells ((Pat.strs l).toArray ++ [Value.string s].toArray ++ Builtin.zeroCells (Value.string ByteArray.empty).cells (grownCap W (n + 1) old 9 - (n + 1))) 9)) row := fun old => by
    have hge := grownCap_ge W (n + 1) old 9
    have hcm : grownCap W (n + 1) old 9 ≤ maxLen := grownCap_le_maxLen W (n + 1) old 9 (by unfold maxLen; omega)
    rw [hst]
    refine ⟨⟨hlen, .inr ⟨W.heap.size, _, _, rfl, hB, heap_alloc_new W.drew _, hge, hcm, ?_, ?_⟩⟩, fun row => ⟨rfl, rfl, rfl, by simp, fun k' hk' _ => Below.heap_alloc W.drew _ k' hk'⟩⟩
    · simp only [Array.size_append, List.size_toArray, size_zeroCells]
      simp [Pat.strs, hln, Value.cells]
      omega
    · simp only [Array.toList_append]
      rw [← hlen]
      exact List.take_left
  rcases h.2 with ⟨rfl, rfl⟩ | ⟨g, cap, cur, rfl, hbg, hg, hnc, hcm, hcs, ht⟩
  · have hl0 : l = [] := List.eq_nil_of_length_eq_zero hln
    subst hl0
    have hr := run_append_nil (P := Tryz.prog) (w := W) 33 33 9 i0 (.string ByteArray.empty) Tryz.underlying33 hi0 hz0 ad 1 c [.string s] (by rw [hz1]; rfl) hnews (by omega) (by omega) (by rw [hz2]; omega)
    obtain ⟨g1, g2⟩ := grown 0
    refine ⟨_, _, hr, ?_, ?_, .inr ⟨?_, rfl⟩⟩
    · simpa [Pat.strs] using g1
    · simpa [Pat.strs] using g2 _
    · simpa [Pat.strs] using g2 none
  · by_cases hroom : n + 1 ≤ cap
    · have hr := run_append_room (P := Tryz.prog) (w := W) 33 33 9 i0 Tryz.underlying33 hi0 g n cap cur hg ad 1 c [.string s] (by rw [hz1]; rfl) hnews (by simp [Value.oneCell']) hroom (by rw [hz1]; simp; omega)
      rw [hz1] at hr
      refine ⟨_, _, hr, ?_, ⟨rfl, rfl, rfl, by simp, fun k _ hk => setRow_other W g k _ (fun e => hk (by simp [Value.ownBlock, e]))⟩, .inl ⟨g, cap, rfl, rfl⟩⟩
      rw [hst]
      refine ⟨hlen, .inr ⟨g, cap, _, rfl, hbg, setRow_heap W g cur _ 9 _ hg, hroom, hcm, ?_, ?_⟩⟩
      · simp
        omega
      · rw [ht, ← hlen]
        simp only [List.append_assoc]
        rw [← List.append_assoc]
        exact List.take_left
    · have holds := h.cells (g := g) rfl
      have hr := run_append_grow (P := Tryz.prog) (w := W) 33 33 9 i0 (.string ByteArray.empty) Tryz.underlying33 hi0 hz0 ⟨g, 0, none⟩ n cap (Pat.strs l) (by rw [hz1]; simp [Pat.strs, hln]) holds ad 1 c [.string s] (by rw [hz1]; rfl) hnews (by omega) (by omega) (by rw [hz2]; exact growslice_fits (by omega) (by omega))
      obtain ⟨g1, g2⟩ := grown cap
      exact ⟨_, _, hr, g1, g2 _, .inr ⟨g2 none, rfl⟩⟩
/-- names stay where a longer row of them is -/
theorem app_back {W : World} {B n : Nat} {u u' : Value} {l : List ByteArray} {s : ByteArray} (h : W.ownsRow B 9 1 u' (n + 1) (Pat.strs (l ++ [s]))) (hl : l.length = n) (he : ∃ g cap, u = .slice (some ⟨g, 0, none⟩) n cap ∧ u' = .slice (some ⟨g, 0, none⟩) (n + 1) cap) : W.ownsRow B 9 1 u n (Pat.strs l) := by
  obtain ⟨g, cap, rfl, rfl⟩ := he
  have := own_shrink h (Nat.le_succ n)
  rw [show (Pat.strs (l ++ [s])).take n = Pat.strs l by simp [Pat.strs, ← hl]] at this
  exact this

/-- an item's three cells -/
abbrev ic (g : It) : List Value := [.string g.p, .bool g.d, .slice g.a g.b.length g.c]
def icells (l : List It) : List Value := l.flatMap ic
theorem icells_app (l m : List It) : icells (l ++ m) = icells l ++ icells m := by
  unfold icells
  rw [List.flatMap_append]
theorem icells_len (l : List It) : (icells l).length = l.length * 3 := by
  induction l with
  | nil => rfl
  | cons f l ih => simp only [icells, List.flatMap_cons, List.length_append, List.length_cons, List.length_nil] at *; omega
theorem icells_get {l : List It} : ∀ {j : Nat} (h : j < l.length), (icells l)[j * 3]? = some (.string l[j].p) ∧ (icells l)[j * 3 + 1]? = some (.bool l[j].d) ∧ (icells l)[j * 3 + 2]? = some (.slice l[j].a l[j].b.length l[j].c) := by
  induction l with
  | nil => intro j h; simp at h
  | cons f l ih =>
    intro j h
    cases j with
    | zero => exact ⟨rfl, rfl, rfl⟩
    | succ j =>
      have := ih (j := j) (by simpa using h)
      have e : (j + 1) * 3 = j * 3 + 1 + 1 + 1 := by omega
      rw [e]
      simpa [icells] using this
/-- the items that are found -/
structure Acc (w : World) (B : Nat) (v : Value) (its : List It) : Prop where
  row : w.ownsRow B 51 3 v its.length (icells its)
  ok : ∀ g ∈ its, g.p.size ≤ 1000000 ∧ g.b.length ≤ 268435456 ∧ w.ownsRow B 5 1 (.slice g.a g.b.length g.c) g.b.length (Crc.u8s g.b) ∧ Crc.Byt g.b ∧ ∀ a, g.a = some a → v.ownBlock ≠ some a.block
/-- what they tell -/
def tells (its : List It) : List (ByteArray × Bool × List Nat) := its.map fun g => (g.p, g.d, g.b)
def told (l : List Th) : List (ByteArray × Bool × List Nat) := l.map fun x => (jnT x.1, x.2.1, Crc.tx x.2.2)
theorem row_same {w w' : World} {B n s : Nat} {t : TypeId} {v : Value} {xs : List Value} (h : w.ownsRow B t s v n xs) (hb : ∀ k, v.ownBlock = some k → w'.heap[k]? = w.heap[k]?) : w'.ownsRow B t s v n xs := by
  rcases h with ⟨h1, h2⟩
  refine ⟨h1, ?_⟩
  rcases h2 with h0 | ⟨g, cap, cur, e, hB, hh, hr⟩
  · exact .inl h0
  · exact .inr ⟨g, cap, cur, e, hB, (hb g (by rw [e]; rfl)).trans hh, hr⟩
theorem row_blk {w : World} {B n s : Nat} {t : TypeId} {v : Value} {xs : List Value} (h : w.ownsRow B t s v n xs) {k : Nat} (hk : v.ownBlock = some k) : B ≤ k ∧ k < w.heap.size := by
  rcases h.2 with ⟨e, _⟩ | ⟨g, cap, cur, e, hB, hh, _⟩
  · rw [e] at hk; cases hk
  · rw [e] at hk
    simp only [Value.ownBlock, Option.some.injEq] at hk
    subst hk
    exact ⟨hB, (Array.getElem?_eq_some_iff.1 hh).1⟩
theorem Acc.same {w w' : World} {B : Nat} {v : Value} {its : List It} (h : Acc w B v its) (hb : ∀ k, k < w.heap.size → (v.ownBlock = some k ∨ ∃ g ∈ its, ∃ a, g.a = some a ∧ a.block = k) → w'.heap[k]? = w.heap[k]?) : Acc w' B v its :=
  ⟨row_same h.row (fun k hk => hb k (row_blk h.row hk).2 (.inl hk)), fun g hg => by
    obtain ⟨h1, h2, h3, h4, h5⟩ := h.ok g hg
    refine ⟨h1, h2, row_same h3 (fun k hk => hb k (row_blk h3 hk).2 (.inr ⟨g, hg, ?_⟩)), h4, h5⟩
    cases hA : g.a with
    | none => rw [hA] at hk; cases hk
    | some a =>
      rw [hA] at hk
      simp only [Value.ownBlock, Option.some.injEq] at hk
      exact ⟨a, rfl, hk⟩⟩
end Trk
end Go.Proofs.YtkhkcfbacnkcnaaGreatDoor
