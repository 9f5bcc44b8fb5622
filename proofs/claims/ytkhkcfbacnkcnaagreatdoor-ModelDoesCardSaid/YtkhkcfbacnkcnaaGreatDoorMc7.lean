/- Texts laid together: TrkSta, TrkItems, TrkAll, CrcSums, TrkLives, TrkOf, TrkTrunc, TrkAct, TrkOfW, TrkOfLaw, TrkDoM, TrkCopy, TrkOff, TrkMid. -/
import Derived.Test.YtkhkcfbacnkcnaaGreatDoorMc6
import Derived.Test.YtkhkcfbacnkcnaaGreatDoorMc2
import Derived.Deep.RegionHeld3
import Derived.Test.YtkhkcfbacnkcnaaGreatDoorMc1
import Derived.Test.YtkhkcfbacnkcnaaGreatDoorMc5
import Derived.Test.YtkhkcfbacnkcnaaGreatDoorMc3
import Derived.Test.YtkhkcfbacnkcnaaGreatDoorMc4
/- How what the program has found lies from one step to the next. -/
namespace Go.Proofs.YtkhkcfbacnkcnaaGreatDoor
open Go.RowKit Go.MapKept
namespace Trk
open Tre (Nm Th It Its eqI smT allT jnT kidL kidT)

/-- on the way -/
structure Sta (w : World) (N : Nat) (t : List Th) (L : Nm → Nd) (B : Nat) (v : Value) (its : List It) (u : Value) (p : Nm) : Prop where
  mem : Mem w N t L
  low : ∀ i, Fp t L i → i < B
  siz : B ≤ w.heap.size
  acc : Acc w B v its
  own : w.ownsRow B 9 1 u p.length (Pat.strs p)
  sep1 : ∀ k, u.ownBlock = some k → v.ownBlock ≠ some k
  sep2 : ∀ g ∈ its, ∀ a, g.a = some a → u.ownBlock ≠ some a.block
/-- what is left: so many items more -/
structure ItR (w : World) (N : Nat) (t : List Th) (L : Nm → Nd) (B : Nat) (v : Value) (its : List It) (u : Value) (p : Nm) (l : List Th) (v' : Value) (new : List It) (w' : World) : Prop where
  sta : Sta w' N t L B v' (its ++ new) u p
  tell : tells new = told l
  chg : Chg (fun i => v.ownBlock = some i ∨ u.ownBlock = some i) w w'
  blk : v'.ownBlock = v.ownBlock ∨ ∃ k, v'.ownBlock = some k ∧ w.heap.size ≤ k
  fresh : ∀ g ∈ new, ∀ a, g.a = some a → w.heap.size ≤ a.block
section
variable {w w' : World} {N : Nat} {t : List Th} {L : Nm → Nd} {B : Nat} {v : Value} {its : List It} {u : Value} {p : Nm}
theorem Acc.blk {g : It} (h : Acc w B v its) (hg : g ∈ its) {a : Addr} (ha : g.a = some a) : B ≤ a.block ∧ a.block < w.heap.size := by
  obtain ⟨_, _, h3, _, _⟩ := h.ok g hg
  exact row_blk h3 (k := a.block) (by rw [ha]; rfl)
theorem Sta.same (h : Sta w N t L B v its u p) (hs : w.heap.size ≤ w'.heap.size) (hb : ∀ k, k < w.heap.size → w'.heap[k]? = w.heap[k]?) : Sta w' N t L B v its u p :=
  ⟨h.mem.block fun i hi => hb i (h.mem.lt hi), h.low, Nat.le_trans h.siz hs, h.acc.same fun k hk _ => hb k hk, row_same h.own fun k hk => hb k (row_blk h.own hk).2, h.sep1, h.sep2⟩
theorem Sta.keep (h : Sta w N t L B v its u p) (hb : Below w.heap.size w w') : Sta w' N t L B v its u p := h.same hb.size hb.block
theorem Sta.drew (h : Sta w N t L B v its u p) : Sta w.drew N t L B v its u p := h.same (Nat.le_refl _) (fun _ _ => rfl)
/-- a name more -/
theorem Sta.down {x : ByteArray} (h : Sta w N t L B v its u p) (hn : p.length ≤ 1000) :
    ∃ u2 wb, (Builtin.append_ #[33, 33] 33 #[u, .slice (some ⟨w.heap.size, 0, none⟩) 1 1]).run Tryz.prog (w.alloc (.cells #[.string x] 9)) = .ok u2 wb ∧ Sta wb N t L B v its u2 (p ++ [x]) ∧ Chg (fun i => u.ownBlock = some i) w wb ∧
      ((∃ g cap, u = .slice (some ⟨g, 0, none⟩) p.length cap ∧ u2 = .slice (some ⟨g, 0, none⟩) (p.length + 1) cap) ∨ (Below w.heap.size w wb ∧ ∃ k, u2.ownBlock = some k ∧ w.heap.size ≤ k)) := by
  have ha := h.keep ((Below.refl _ w).alloc (Nat.le_refl _) (.cells #[.string x] 9))
  obtain ⟨u2, wb, hr, ho, hg, hcase⟩ := app_keep (c := 1) ha.own x (ad := ⟨w.heap.size, 0, none⟩) (by rw [Crc.alloc_cell]; rfl) hn ha.siz
  have hba : Below w.heap.size w (w.alloc (.cells #[.string x] 9)) := (Below.refl _ w).alloc (Nat.le_refl _) _
  have hub : ∀ k, u.ownBlock = some k → B ≤ k ∧ k < w.heap.size := fun k hk => row_blk h.own hk
  have hch : Chg (fun i => u.ownBlock = some i) w wb := Chg.after hba ⟨hg.os, hg.tape, hg.output, hg.size, fun k hk hne => hg.block k hk (fun e => hne e.symm)⟩
  have hk2 : ∀ k, u2.ownBlock = some k → u.ownBlock = some k ∨ w.heap.size ≤ k := fun k hk => by
    rcases hcase with ⟨g, cap, e1, e2⟩ | ⟨_, e2⟩
    · rw [e2] at hk
      rw [e1]
      exact .inl hk
    · rw [e2] at hk
      simp only [Option.some.injEq, World.size_alloc] at hk
      exact .inr (by omega)
  refine ⟨u2, wb, hr, ⟨?_, h.low, Nat.le_trans h.siz hch.size, ?_, ?_, ?_, ?_⟩, hch, ?_⟩
  · exact h.mem.block fun i hi => hch.block i (h.mem.lt hi) (fun e => by have := (hub i e).1; have := h.low i hi; omega)
  · refine h.acc.same fun k hk hc => hch.block k hk (fun e => ?_)
    rcases hc with hc | ⟨g, hg', a, ea, rfl⟩
    · exact h.sep1 k e hc
    · exact h.sep2 g hg' a ea e
  · rw [List.length_append, List.length_singleton]
    exact ho
  · intro k hk hv
    rcases hk2 k hk with h1 | h1
    · exact h.sep1 k h1 hv
    · have := (row_blk h.acc.row hv).2
      omega
  · intro g hg' a ea hu
    rcases hk2 _ hu with h1 | h1
    · exact h.sep2 g hg' a ea h1
    · have := (h.acc.blk hg' ea).2
      omega
  · rcases hcase with hc | ⟨hgn, e2⟩
    · exact .inl hc
    · refine .inr ⟨hba.trans ⟨hgn.os, hgn.tape, hgn.output, hgn.size, fun k hk => hgn.block k (by rw [World.size_alloc]; omega) (by simp)⟩, _, e2, by rw [World.size_alloc]; omega⟩
/-- an item more -/
theorem Sta.more {g : It} (h : Sta w N t L B v its u p) (hp : g.p.size ≤ 1000000) (hl : g.b.length ≤ 268435456) (hr : w.ownsRow B 5 1 (.slice g.a g.b.length g.c) g.b.length (Crc.u8s g.b)) (hb : Crc.Byt g.b) (hgv : ∀ a, g.a = some a → v.ownBlock ≠ some a.block ∧ u.ownBlock ≠ some a.block) (hn : its.length ≤ 1000000) :
    ∃ v2 w2, (Builtin.append_ #[41, 41] 41 #[v, .slice (some ⟨w.heap.size, 0, none⟩) 1 1]).run Tryz.prog (w.alloc (.cells #[.string g.p, .bool g.d, .slice g.a g.b.length g.c] 51)) = .ok v2 w2 ∧ Sta w2 N t L B v2 (its ++ [g]) u p ∧ Chg (fun i => v.ownBlock = some i) w w2 ∧ (v2.ownBlock = v.ownBlock ∨ ∃ k, v2.ownBlock = some k ∧ w.heap.size ≤ k) := by
  have hba : Below w.heap.size w (w.alloc (.cells #[.string g.p, .bool g.d, .slice g.a g.b.length g.c] 51)) := (Below.refl _ w).alloc (Nat.le_refl _) _
  have ha := h.keep hba
  obtain ⟨i0, hi0, hz0, hz1, hz2⟩ : ∃ i0, Tryz.prog.info? 51 = some i0 ∧ i0.zero = some (.agg #[.string ByteArray.empty, .bool false, .slice none 0 0]) ∧ i0.size = 3 ∧ i0.bytes = 48 := by
    have hinf : (Tryz.prog.info? 51).map (fun i => (i.zero, i.size, i.bytes)) = some (some (.agg #[.string ByteArray.empty, .bool false, .slice none 0 0]), 3, 48) := by kernel_rfl
    obtain ⟨i, hi, hzz⟩ := Option.map_eq_some_iff.1 hinf
    simp only [Prod.mk.injEq] at hzz
    exact ⟨i, hi, hzz.1, hzz.2.1, hzz.2.2⟩
  obtain ⟨v2, w2, hrun, ho, hg, _, hat⟩ := run_append_own_at (P := Tryz.prog) (w.alloc (.cells #[.string g.p, .bool g.d, .slice g.a g.b.length g.c] 51)) B 41 41 51 i0 _ 3 48 Tryz.underlying41 hi0 hz0 hz1 hz2 rfl (by decide) v its.length (icells its) ha.acc.row ⟨w.heap.size, 0, none⟩ 1 1 (ic g) rfl (fun j x hj => by
    match j, hj with
    | 0, hj => simp only [ic, List.getElem?_cons_zero, Option.some.injEq] at hj; subst hj; rw [Go.WideShapes.add_plain, Crc.alloc_cell]; rfl
    | 1, hj => simp only [ic, List.getElem?_cons_succ, List.getElem?_cons_zero, Option.some.injEq] at hj; subst hj; rw [Go.WideShapes.add_plain, Crc.alloc_cell]; rfl
    | 2, hj => simp only [ic, List.getElem?_cons_succ, List.getElem?_cons_zero, Option.some.injEq] at hj; subst hj; rw [Go.WideShapes.add_plain, Crc.alloc_cell]; rfl
    | j + 3, hj => simp [ic] at hj) (by simp [ic, Value.oneCell']) (by unfold maxLen; omega) (by omega) ha.siz
  have hch : Chg (fun i => v.ownBlock = some i) w w2 := Chg.after hba ⟨hg.os, hg.tape, hg.output, hg.size, fun k hk hne => hg.block k hk (fun e => hne e.symm)⟩
  have hv2 : v2.ownBlock = v.ownBlock ∨ ∃ k, v2.ownBlock = some k ∧ w.heap.size ≤ k := hat.imp id (fun e => ⟨_, e, by rw [World.size_alloc]; omega⟩)
  have hvb : ∀ k, v.ownBlock = some k → B ≤ k ∧ k < w.heap.size := fun k hk => row_blk h.acc.row hk
  have hold : ∀ g' ∈ its ++ [g], ∀ a, g'.a = some a → a.block < w.heap.size ∧ v.ownBlock ≠ some a.block ∧ u.ownBlock ≠ some a.block := fun g' hg' a ea => by
    rcases List.mem_append.1 hg' with hg' | hg'
    · obtain ⟨_, _, _, _, h5⟩ := h.acc.ok g' hg'
      exact ⟨(h.acc.blk hg' ea).2, h5 a ea, h.sep2 g' hg' a ea⟩
    · obtain rfl : g' = g := by simpa using hg'
      exact ⟨(row_blk hr (k := a.block) (by rw [ea]; rfl)).2, hgv a ea⟩
  refine ⟨v2, w2, hrun, ⟨?_, h.low, Nat.le_trans h.siz hch.size, ⟨?_, fun g' hg' => ?_⟩, ?_, ?_, fun g' hg' a ea => (hold g' hg' a ea).2.2⟩, hch, hv2⟩
  · exact h.mem.block fun i hi => hch.block i (h.mem.lt hi) (fun e => by have := (hvb i e).1; have := h.low i hi; omega)
  · rw [icells_app, List.length_append, List.length_singleton]
    simpa [icells] using ho
  · have hrow : ∀ g' : It, w.ownsRow B 5 1 (.slice g'.a g'.b.length g'.c) g'.b.length (Crc.u8s g'.b) → (∀ a, g'.a = some a → v.ownBlock ≠ some a.block) → w2.ownsRow B 5 1 (.slice g'.a g'.b.length g'.c) g'.b.length (Crc.u8s g'.b) := fun g' hr' hne => row_same hr' fun k hk => hch.block k (row_blk hr' hk).2 (fun e => by
      cases hA : g'.a with
      | none => rw [hA] at hk; cases hk
      | some a =>
        rw [hA] at hk
        simp only [Value.ownBlock, Option.some.injEq] at hk
        exact hne a hA (hk ▸ e))
    have hsep : ∀ a, g'.a = some a → v2.ownBlock ≠ some a.block := fun a ea e => by
      obtain ⟨q1, q2, _⟩ := hold g' hg' a ea
      rcases hv2 with h1 | ⟨k, h1, h2⟩
      · exact q2 (h1.symm.trans e)
      · rw [h1] at e
        injection e with e
        omega
    rcases List.mem_append.1 hg' with hg'' | hg''
    · obtain ⟨h1, h2, h3, h4, h5⟩ := h.acc.ok g' hg''
      exact ⟨h1, h2, hrow g' h3 h5, h4, hsep⟩
    · obtain rfl : g' = g := by simpa using hg''
      exact ⟨hp, hl, hrow g' hr (fun a ea => (hgv a ea).1), hb, hsep⟩
  · exact row_same h.own fun k hk => hch.block k (row_blk h.own hk).2 (fun e => h.sep1 k hk e)
  · intro k hk e
    rcases hv2 with h1 | ⟨k', h1, h2⟩
    · exact h.sep1 k hk (h1.symm.trans e)
    · rw [h1] at e
      injection e with e
      have := (row_blk h.own hk).2
      omega
end
section
variable {w w1 w2 : World} {N : Nat} {t : List Th} {L : Nm → Nd} {B : Nat} {v v1 v2 : Value} {its new1 new2 : List It} {u : Value} {p : Nm} {l1 l2 : List Th}
theorem ItR.refl (h : Sta w N t L B v its u p) : ItR w N t L B v its u p [] v [] w :=
  ⟨by rw [List.append_nil]; exact h, rfl, Chg.refl _ _, .inl rfl, fun g hg => by simp at hg⟩
theorem ItR.after (hb : Below w.heap.size w w1) (h : ItR w1 N t L B v its u p l1 v1 new1 w2) : ItR w N t L B v its u p l1 v1 new1 w2 :=
  ⟨h.sta, h.tell, Chg.after hb h.chg, h.blk.imp id (fun ⟨k, h1, h2⟩ => ⟨k, h1, Nat.le_trans hb.size h2⟩), fun g hg a ea => Nat.le_trans hb.size (h.fresh g hg a ea)⟩
theorem ItR.more (h : ItR w N t L B v its u p l1 v1 new1 w1) (k : ItR w1 N t L B v1 (its ++ new1) u p l2 v2 new2 w2) : ItR w N t L B v its u p (l1 ++ l2) v2 (new1 ++ new2) w2 := by
  refine ⟨by rw [← List.append_assoc]; exact k.sta, ?_, h.chg.trans k.chg (fun i hi => ?_), ?_, fun g hg a ea => ?_⟩
  · have h1 := h.tell
    have h2 := k.tell
    unfold tells told at *
    rw [List.map_append, List.map_append, h1, h2]
  · rcases hi with hi | hi
    · rcases h.blk with e | ⟨q, e, hq⟩
      · exact .inl (.inl (e.symm.trans hi))
      · rw [e] at hi
        injection hi with hi
        exact .inr (by omega)
    · exact .inl (.inr hi)
  · rcases k.blk with e | ⟨q, e, hq⟩
    · rw [e]
      exact h.blk
    · exact .inr ⟨q, e, Nat.le_trans h.chg.size hq⟩
  · rcases List.mem_append.1 hg with hg | hg
    · exact h.fresh g hg a ea
    · exact Nat.le_trans h.chg.size (k.fresh g hg a ea)
/-- a directory's or a file's item, and what is in it -/
theorem ItR.up {wb wc we w9 : World} {u2 v3 v9 : Value} {x : ByteArray} {g : It} {y : Th} {new : List It} {l : List Th} (h : Sta w N t L B v its u p) (hc1 : Chg (fun i => u.ownBlock = some i) w wb)
    (hcase : (∃ g cap, u = .slice (some ⟨g, 0, none⟩) p.length cap ∧ u2 = .slice (some ⟨g, 0, none⟩) (p.length + 1) cap) ∨ (Below w.heap.size w wb ∧ ∃ k, u2.ownBlock = some k ∧ w.heap.size ≤ k)) (hb : Below wb.heap.size wb wc)
    (hc2 : Chg (fun i => v.ownBlock = some i) wc we) (hv3 : v3.ownBlock = v.ownBlock ∨ ∃ k, v3.ownBlock = some k ∧ wc.heap.size ≤ k) (hg : ∀ a, g.a = some a → wb.heap.size ≤ a.block)
    (hI : ItR we N t L B v3 (its ++ [g]) u2 (p ++ [x]) l v9 new w9) (ht : (g.p, g.d, g.b) = (jnT y.1, y.2.1, Crc.tx y.2.2)) : ItR w N t L B v its u p (y :: l) v9 (g :: new) w9 := by
  have hub : ∀ k, u.ownBlock = some k → B ≤ k ∧ k < w.heap.size := fun k hk => row_blk h.own hk
  have hvb : ∀ k, v.ownBlock = some k → B ≤ k ∧ k < w.heap.size := fun k hk => row_blk h.acc.row hk
  have hu2 : ∀ k, u2.ownBlock = some k → u.ownBlock = some k ∨ w.heap.size ≤ k := fun k hk => by
    rcases hcase with ⟨g, cap, e1, e2⟩ | ⟨_, k', e2, hk'⟩
    · rw [e2] at hk
      rw [e1]
      exact .inl hk
    · rw [e2] at hk
      injection hk with hk
      exact .inr (by omega)
  have hs1 := hc1.size
  have hs2 := hb.size
  have hs3 := hc2.size
  have hv3' : ∀ k, v3.ownBlock = some k → v.ownBlock = some k ∨ w.heap.size ≤ k := fun k hk => by
    rcases hv3 with e | ⟨k', e, hk'⟩
    · exact .inl (e.symm.trans hk)
    · rw [e] at hk
      injection hk with hk
      exact .inr (by omega)
  have hall : Chg (fun i => v.ownBlock = some i ∨ u.ownBlock = some i) w we :=
    (((show Chg (fun i => v.ownBlock = some i ∨ u.ownBlock = some i) w wb from ⟨hc1.os, hc1.tape, hc1.output, hc1.size, fun k hk hne => hc1.block k hk (fun e => hne (.inr e))⟩).trans (Chg.of_below (F := fun _ => False) hb) (fun _ h => h.elim)).trans hc2 (fun i hi => .inl (.inl hi)))
  have hch : Chg (fun i => v.ownBlock = some i ∨ u.ownBlock = some i) w w9 := hall.trans hI.chg (fun i hi => by
    rcases hi with hi | hi
    · exact (hv3' i hi).imp .inl id
    · exact (hu2 i hi).imp .inr id)
  have hv9 : v9.ownBlock = v.ownBlock ∨ ∃ k, v9.ownBlock = some k ∧ w.heap.size ≤ k := by
    rcases hI.blk with e | ⟨k, e, hk⟩
    · rcases hv3 with e' | ⟨k, e', hk⟩
      · exact .inl (e.trans e')
      · exact .inr ⟨k, e.trans e', by omega⟩
    · exact .inr ⟨k, e, by omega⟩
  have hfr : ∀ g' ∈ g :: new, ∀ a, g'.a = some a → w.heap.size ≤ a.block := fun g' hg' a ea => by
    rcases List.mem_cons.1 hg' with rfl | hg'
    · have := hg a ea
      omega
    · have := hI.fresh g' hg' a ea
      omega
  have hsta := hI.sta
  rw [List.append_assoc] at hsta
  refine ⟨⟨hsta.mem, h.low, hsta.siz, hsta.acc, ?_, ?_, ?_⟩, ?_, hch, hv9, hfr⟩
  · rcases hcase with hc | ⟨hbw, k', e2, hk'⟩
    · have ho := hsta.own
      rw [List.length_append, List.length_singleton] at ho
      exact app_back ho rfl hc
    · refine row_same h.own fun k hk => ?_
      have hkl := (hub k hk).2
      have e1 : wb.heap[k]? = w.heap[k]? := hbw.block k hkl
      have e2' : wc.heap[k]? = wb.heap[k]? := hb.block k (by omega)
      have e3 : we.heap[k]? = wc.heap[k]? := hc2.block k (by omega) (fun e => h.sep1 k hk e)
      have e4 : w9.heap[k]? = we.heap[k]? := hI.chg.block k (by omega) (fun e => by
        rcases e with e | e
        · rcases hv3' k e with e' | e'
          · exact h.sep1 k hk e'
          · omega
        · rw [e2] at e
          injection e with e
          omega)
      rw [e4, e3, e2', e1]
  · intro k hk e
    rcases hcase with ⟨q, cap, e1, e2⟩ | _
    · exact hsta.sep1 k (by rw [e2]; rw [e1] at hk; exact hk) e
    · rcases hv9 with e' | ⟨k', e', hk'⟩
      · exact h.sep1 k hk (e'.symm.trans e)
      · rw [e'] at e
        injection e with e
        have := (hub k hk).2
        omega
  · intro g' hg' a ea e
    rcases List.mem_append.1 hg' with hg' | hg'
    · exact h.sep2 g' hg' a ea e
    · have h1 := hfr g' (by simpa using hg') a ea
      have h2 := (hub _ e).2
      omega
  · have := hI.tell
    unfold tells told at *
    rw [List.map_cons, List.map_cons, this, ht]
end
end Trk
end Go.Proofs.YtkhkcfbacnkcnaaGreatDoor
/- The program's items: all that is in a directory, in order. -/
namespace Go.Proofs.YtkhkcfbacnkcnaaGreatDoor
open Go.RowKit Go.MapKept
namespace Trk
open Tre (Nm Th It Its eqI smT allT jnT kidL kidT)
open Pat (Txs)

/-- what a name brings -/
def FF (t : List Th) (k : Nat) (p : Nm) (x : ByteArray) : List Th := th t (p ++ [x]) :: sb k t (p ++ [x])
theorem sb_FF (k : Nat) (t : List Th) (p : Nm) : sb (k + 1) t p = (kidT t p).flatMap (FF t k p) := rfl
theorem FF_next (t : List Th) (k : Nat) (p : Nm) {j : Nat} (h : j < (kidT t p).length) : ((kidT t p).take (j + 1)).flatMap (FF t k p) = ((kidT t p).take j).flatMap (FF t k p) ++ FF t k p (kidT t p)[j] := by
  rw [List.take_succ_eq_append_getElem h, List.flatMap_append]
  simp
theorem part_len (t : List Th) (k : Nat) (p : Nm) (j : Nat) : (((kidT t p).take j).flatMap (FF t k p)).length ≤ (sb (k + 1) t p).length := by
  rw [sb_FF]
  conv => rhs; rw [← List.take_append_drop j (kidT t p), List.flatMap_append, List.length_append]
  omega
theorem tail_len : ∀ (ls : List (List UInt8)), (∀ x ∈ ls, x.length ≤ 48) → (Lib.joinTail [47] ls).length ≤ 49 * ls.length
  | [], _ => by simp [Lib.joinTail]
  | x :: ls, h => by
    have h1 := h x (by simp)
    have h2 := tail_len ls (fun y hy => h y (by simp [hy]))
    rw [Pat.joinTail_cons, List.length_cons, List.length_append, List.length_cons]
    omega
theorem jn_size {q : Nm} (h : Pat.IsNames q) : (jnT q).size ≤ 1000000 := by
  unfold Tre.jnT
  rw [if_pos h]
  unfold Pat.pth
  split
  · decide
  · have h1 := tail_len (q.map (·.data.toList)) (fun x hx => by
      obtain ⟨y, hy, rfl⟩ := List.mem_map.1 hx
      have := (h.2 y hy).1.2
      rw [Crc.tx_len] at this
      simpa using this)
    rw [List.length_map] at h1
    have h2 := h.1
    show (Lib.joinTail [47] (q.map (·.data.toList))).toArray.size ≤ 1000000
    rw [List.size_toArray]
    omega
theorem row_slice3 {W : World} {B n : Nat} {e : TypeId} {v : Value} {xs : List Value} (h : W.ownsRow B e 3 v n xs) : ∃ A c, v = .slice A n c := by
  rcases h.2 with ⟨rfl, rfl⟩ | ⟨g, cap, cur, rfl, _⟩
  · exact ⟨none, 0, rfl⟩
  · exact ⟨_, _, rfl⟩
theorem step_append_run3 {P : Program} {w w' : World} {ops : Array Oper} {o : Oper} {a : Act} {K : Act → World → Prop} {Q : Exit → Act → World → Prop} {E : Prop} (hgd : o.guard = none) (s x : Operand) (t : TypeId)
    (ho : o.op = .call { callee := .builtin .append, args := #[s, x], argTypes := #[t, t] }) (v u v' : Value) (hs : a.eval s = v) (hx : a.eval x = u) (hr : (Builtin.append_ #[t, t] o.type #[v, u]).run P w = .ok v' w')
    (h : K (a.put o.dst v') w') : if Region.wanted o (yielded ops a.tmps) = true then Oper.wp P o a w K Q else E := Tre.step_append_run hgd s x t ho v u v' hs hx hr h
theorem tells_len {its : List It} {l : List Th} (h : tells its = told l) : its.length = l.length := by
  have := congrArg List.length h
  simpa [tells, told] using this
set_option maxRecDepth 100000 in
set_option maxHeartbeats 1000000 in
theorem items_step (w : World) (N k : Nat) (t : List Th) (L : Nm → Nd) (B n vc m uc : Nat) (VA UA : Option Addr) (its : List It) (p : Nm) (v0 : Bool × ByteArray) (hW : Wf t) (hl : t.length ≤ 100000) (hn : its.length = n) (hm : p.length = m) (hv : T t p = some v0)
    (h : Sta w N t L B (.slice VA n vc) its (.slice UA m uc) p) (hc : its.length + (sb (k + 1) t p).length ≤ 1000000)
    (rec : ∀ x ∈ kidT t p, ∀ (W : World) (n vc uc : Nat) (VA UA : Option Addr) (its : List It), its.length = n → Sta W N t L B (.slice VA n vc) its (.slice UA (m + 1) uc) (p ++ [x]) → its.length + (sb k t (p ++ [x])).length ≤ 1000000 →
      Calls Tryz.prog 47 #[.pointer (some ⟨(L (p ++ [x])).b, 0, none⟩), .slice VA n vc, .slice UA (m + 1) uc] W fun e w' => ∃ v' new, e = .returned v' ∧ ItR W N t L B (.slice VA n vc) its (.slice UA (m + 1) uc) (p ++ [x]) (sb k t (p ++ [x])) v' new w') :
    Calls Tryz.prog 47 #[.pointer (some ⟨(L p).b, 0, none⟩), .slice VA n vc, .slice UA m uc] w fun e w' => ∃ v' new, e = .returned v' ∧ ItR w N t L B (.slice VA n vc) its (.slice UA m uc) p (sb (k + 1) t p) v' new w' := by
  have H := Lib.hid h
  have HN := Lib.hid hn
  have HMM := Lib.hid hm
  have HREC := Lib.hid rec
  have HC := Lib.hid hc
  have HV := Lib.hid hv
  have HL := Lib.hid (tlist_any w N t L p (L p) v0.1 v0.2 (h.mem.nod _ _ _ hv) hW (by omega))
  clear h hn hm rec hc hv
  go_enter Tryz.func47, Tryz.ntmps47
  go_wp2_with fail
  refine HL.out.mono ?_
  rintro e w1 ⟨A, c, rfl, ho, hb1⟩
  have HB1 := Lib.hid hb1
  have HS1 := Lib.hid (H.out.keep hb1)
  have hAb : ∀ a, A = some a → w.heap.size ≤ a.block ∧ a.block < w1.heap.size := fun a ea => row_blk ho (k := a.block) (by rw [ea]; rfl)
  have hT1 := (Pat.own_txs ho (fun s hs => by
    have hx := (kidT_perm t p).mem_iff.1 hs
    have := kid_size hW ((kidL_mem hW.once).1 hx)
    unfold maxLen at this
    omega) (by
    have h1 := (kidT_perm t p).length_eq
    have h2 : (kidL t p).length ≤ t.length := by unfold Tre.kidL; rw [List.length_map]; exact List.length_filter_le _ _
    omega)).1
  have HA := Lib.hid hAb
  have HT1 := Lib.hid hT1
  have HU := Lib.hid (fun q (hq : (Value.slice UA m uc).ownBlock = some q) => (row_blk H.out.own hq).2)
  have HVV := Lib.hid (fun q (hq : (Value.slice VA n vc).ownBlock = some q) => (row_blk H.out.acc.row hq).2)
  obtain ⟨K, hK⟩ : ∃ K, K = (kidT t p).length := ⟨_, rfl⟩
  have HK := Lib.hid hK
  rw [← hK]
  have hKl : K ≤ 100000 := by
    have h1 := (kidT_perm t p).length_eq
    have h2 : (kidL t p).length ≤ t.length := by unfold Tre.kidL; rw [List.length_map]; exact List.length_filter_le _ _
    omega
  clear ho hb1 hAb hT1 hK HL
  go_wp2_with fail
  go_loopw [1, 16] (fun vv ix wr => ∃ (j nn cc : Nat) (AA : Option Addr) (new : List It), j ≤ K ∧ vv = .slice AA nn cc ∧ ix = .int .i64 (j : Int) ∧ (its ++ new).length = nn ∧ ItR w1 N t L B (.slice VA n vc) its (.slice UA m uc) p (((kidT t p).take j).flatMap (FF t k p)) (.slice AA nn cc) new wr) (fun _ ix _ => K - (intOf ix).toNat)
  case atStart => exact ⟨0, n, vc, VA, [], Nat.zero_le _, rfl, rfl, by rw [List.append_nil]; exact HN.out, ItR.refl HS1.out⟩
  case round =>
    obtain ⟨j, nn, cc, AA, new, hj, rfl, rfl, hnn, hI⟩ := hrel
    have HI := Lib.hid hI
    have HNN := Lib.hid hnn
    clear hI hnn
    by_cases hlt : j < K
    · have hltk : j < (kidT t p).length := by rw [← HK.out]; exact hlt
      have hTr : Txs wr A (kidT t p) := by
        refine ⟨HT1.out.size, HT1.out.len, fun i hi => ?_⟩
        obtain ⟨b, o, e, hb, hc⟩ := HT1.out.at' i hi
        obtain ⟨q1, q2⟩ := HA.out _ e
        refine ⟨b, o, e, Nat.lt_of_lt_of_le hb HI.out.chg.size, (World.cell?_of_block (w := w1) (a := ⟨b, o + i, none⟩) (HI.out.chg.block b hb (fun e => ?_))).trans hc⟩
        rcases e with e | e
        · have := HVV.out _ e
          simp only at q1
          omega
        · have := HU.out _ e
          simp only at q1
          omega
      obtain ⟨b, o, rfl, _, hc0⟩ := hTr.at' j hltk
      have hxm : (kidT t p)[j] ∈ kidT t p := List.getElem_mem hltk
      have HNX := Lib.hid (FF_next t k p hltk)
      have HPL := Lib.hid (part_len t k p (j + 1))
      generalize (kidT t p)[j] = x at *
      have hxk := (kidT_perm t p).mem_iff.1 hxm
      have hxs := kid_size hW ((kidL_mem hW.once).1 hxk)
      obtain ⟨⟨d, s⟩, hv1⟩ := Option.isSome_iff_exists.1 ((kidL_mem hW.once).1 hxk)
      have hIN := (hW.nm _ (T_mem (by simp) hv1)).2
      have hsta := HI.out.sta
      have hND := hsta.mem.nod _ _ _ HV.out
      have h2 := hND.c2
      have hlk := hND.look x hxs
      unfold kb at hlk
      rw [hv1] at hlk
      simp only [Option.map_some, pv] at hlk
      have hpl : p.length ≤ 1000 := by have := hIN.1; simp at this; omega
      obtain ⟨u2, wb, hap, hst2, hch, hcase⟩ := hsta.down (x := x) hpl
      have ho2 := hst2.own
      rw [List.length_append, List.length_singleton, HMM.out] at ho2
      obtain ⟨UA2, uc2, rfl⟩ := row_slice1 ho2
      have hjn : Pat.jn (p ++ [x]) = .tuple #[.string (jnT (p ++ [x])), .int .i64 0] := by
        unfold Pat.jn Tre.jnT
        rw [if_pos hIN, if_pos hIN]
      have hlq : (p ++ [x]).length = m + 1 := by simp [HMM.out]
      have htx2 := (Pat.own_txs ho2 (fun s hs => by have := (hIN.2 s hs).1.2; rw [Crc.tx_len] at this; omega) (by have := HMM.out; omega)).1
      have huc2 : m + 1 ≤ uc2 := by
        rcases ho2.2 with ⟨e, h0⟩ | ⟨g, cap, cur, e, _, _, h1, _⟩
        · omega
        · simp only [Value.slice.injEq] at e
          omega
      have hJ0 := Pat.join_any wb UA2 uc2 (p ++ [x]) htx2 (by rw [hlq]; exact huc2)
      rw [hjn, hlq] at hJ0
      have HJ := Lib.hid hJ0
      have HAPU := Lib.hid hap
      have HST2 := Lib.hid hst2
      have HCH := Lib.hid hch
      have HCASE := Lib.hid hcase
      have HSTA := Lib.hid hsta
      have HXM := Lib.hid hxm
      have HV1 := Lib.hid hv1
      have HIN := Lib.hid hIN
      have HLQ := Lib.hid hlq
      clear hTr hxm hxk hv1 hIN hsta hND hap hst2 hch hcase ho2 hjn hlq htx2 huc2 hJ0 hltk
      generalize hy : L (p ++ [x]) = y at *
      have HY := Lib.hid hy
      generalize hz : L p = z at *
      clear hy hz
      go_wp2_with (at_builtin; refine Pat.wpList_append_run rfl (.tmp 26) (.tmp 28) 33 rfl _ _ _ rfl rfl HAPU.out ?_)
      refine HJ.out.mono ?_
      rintro e wc ⟨rfl, hbc⟩
      have HBC := Lib.hid hbc
      have HSTC := Lib.hid (HST2.out.keep hbc)
      have hNY := HSTC.out.mem.nod _ _ _ HV1.out
      rw [HY.out] at hNY
      have hy0 := hNY.c0
      have hy1 := hNY.c1
      have HNY := Lib.hid hNY
      have HSS := Lib.hid (hW.fsize HV1.out)
      have HJS := Lib.hid (jn_size HIN.out)
      have hyl := hNY.blt
      have hnl1 : (its ++ new).length ≤ 1000000 := by
        have h1 := tells_len HI.out.tell
        have h2 := part_len t k p j
        have h3 := HC.out
        rw [List.length_append]
        omega
      have HSTEP := Lib.hid (show ∀ (W' : World) (G : Option Addr) (gc : Nat), W'.ownsRow wc.heap.size 5 1 (.slice G s.size gc) s.size (Crc.u8s (Crc.tx s)) → Below wc.heap.size wc.drew W' →
          (y.b < W'.heap.size ∧ W'.cell? ⟨y.b, 0, none⟩ = some (.bool (!d)) ∧ W'.cell? ⟨y.b, 1, none⟩ = some (.slice y.A s.size y.c)) ∧
          ∃ (A3 : Option Addr) (c3 : Nat) (we : World), (Builtin.append_ #[41, 41] 41 #[.slice AA nn cc, .slice (some ⟨W'.heap.size, 0, none⟩) 1 1]).run Tryz.prog (W'.alloc (.cells #[.string (jnT (p ++ [x])), .bool (d), .slice G s.size gc] 51)) = .ok (.slice A3 (nn + 1) c3) we ∧
            we.cell? ⟨y.b, 0, none⟩ = some (.bool (!d)) ∧ we.cell? ⟨y.b, 1, none⟩ = some (.slice y.A s.size y.c) ∧
            Sta we N t L B (.slice A3 (nn + 1) c3) ((its ++ new) ++ [⟨jnT (p ++ [x]), d, G, gc, Crc.tx s⟩]) (.slice UA2 (m + 1) uc2) (p ++ [x]) ∧ (∀ a, G = some a → wb.heap.size ≤ a.block) ∧
            ∃ wd, Below wb.heap.size wb wd ∧ Chg (fun i => (Value.slice AA nn cc).ownBlock = some i) wd we ∧ ((Value.slice A3 (nn + 1) c3).ownBlock = (Value.slice AA nn cc).ownBlock ∨ ∃ q, (Value.slice A3 (nn + 1) c3).ownBlock = some q ∧ wd.heap.size ≤ q) from fun W' G gc ho hb => by
        have hbd : Below wb.heap.size wb W' := HBC.out.trans ⟨hb.os, hb.tape, hb.output, hb.size, fun q hq => hb.block q (Nat.lt_of_lt_of_le hq HBC.out.size)⟩
        have hS5 : Sta W' N t L B (.slice AA nn cc) (its ++ new) (.slice UA2 (m + 1) uc2) (p ++ [x]) := HST2.out.keep hbd
        have hGb : ∀ a, G = some a → wc.heap.size ≤ a.block := fun a ea => (row_blk ho (k := a.block) (by rw [ea]; rfl)).1
        have hn5 := hS5.mem.nod _ _ _ HV1.out
        rw [HY.out] at hn5
        have hjs : (jnT (p ++ [x])).size ≤ 1000000 := HJS.out
        obtain ⟨v3, we, hrun, hS, hch, hv3⟩ := hS5.more (g := ⟨jnT (p ++ [x]), d, G, gc, Crc.tx s⟩) hjs (by show (Crc.tx s).length ≤ _; rw [Crc.tx_len]; exact HSS.out) (by show W'.ownsRow B _ 1 (.slice G (Crc.tx s).length gc) (Crc.tx s).length _; rw [Crc.tx_len]; exact own_low ho (Nat.le_trans HSTC.out.siz (Nat.le_refl _))) (tx_byt s) (fun a ea => by
            have h1 := hGb a ea
            refine ⟨fun e => ?_, fun e => ?_⟩
            · have := (row_blk HSTC.out.acc.row e).2
              omega
            · have := (row_blk HSTC.out.own e).2
              omega) hnl1
        have hrow := hS.acc.row
        rw [List.length_append, List.length_singleton, HNN.out] at hrow
        obtain ⟨A3, c3, rfl⟩ : ∃ A3 c3, v3 = .slice A3 (nn + 1) c3 := by
          rcases hrow.2 with ⟨_, h0⟩ | ⟨g, cap, cur, e, _⟩
          · omega
          · exact ⟨_, _, e⟩
        have hne := hS.mem.nod _ _ _ HV1.out
        rw [HY.out] at hne
        simp only [Crc.tx_len] at hrun
        exact ⟨⟨hn5.blt, hn5.c0, hn5.c1⟩, A3, c3, we, hrun, hne.c0, hne.c1, hS, fun a ea => Nat.le_trans HBC.out.size (hGb a ea), W', hbd, hch, hv3⟩)
      have HCL := Lib.hid (show Calls Tryz.prog 57 #[.slice y.A s.size y.c] wc.drew fun e w' => ∃ G gc, e = .returned (.slice G s.size gc) ∧ w'.ownsRow wc.heap.size 5 1 (.slice G s.size gc) s.size (Crc.u8s (Crc.tx s)) ∧ Below wc.heap.size wc.drew w' from
        (bclone_any wc.drew y.A s.size y.c (Crc.tx s) (Crc.own_bts (hNY.row.drew) (tx_byt s) (by have := HSS.out; omega)) (Crc.tx_len s) HSS.out).mono (by
          rintro e w' ⟨G, gc, rfl, ho, hb⟩
          rw [Crc.tx_len] at ho ⊢
          exact ⟨G, gc, rfl, ho, hb⟩))
      clear hbc hNY h2 hlk hc0 hnl1
      go_wp2_with fail
      go_region_held3 (fun W' => W'.cell? ⟨y.b, 0, none⟩ = some (.bool (!d)) ∧ W'.cell? ⟨y.b, 1, none⟩ = some (.slice y.A s.size y.c)) (go_keep)
        (first
        | (go_at_call 57
           with_reducible refine (HCL.out).mono ?_
           rintro e w5 ⟨G, gc, rfl, ho, hb⟩
           obtain ⟨⟨hl5, hk0, hk1⟩, A3, c3, we, hap3, hw0, hw1, hrest⟩ := HSTEP.out w5 G gc ho hb
           have HAP3 := Lib.hid hap3
           have HREST := Lib.hid hrest
           clear hap3 hrest ho hb)
        | ((refine step_append_run3 (by rfl) (.tmp 35) (.tmp 48) 41 (by rfl) _ _ _ (by rfl) (by rfl) (Hid.out (by assumption)) ?_)))
      obtain ⟨hS, hGf, wd, hbd, hch2, hv3⟩ := HREST.out
      have hl9 : ((its ++ new) ++ [(⟨jnT (p ++ [x]), d, G, gc, Crc.tx s⟩ : It)]).length = nn + 1 := by rw [List.length_append, HNN.out]; rfl
      have hcap : ((its ++ new) ++ [(⟨jnT (p ++ [x]), d, G, gc, Crc.tx s⟩ : It)]).length + (sb k t (p ++ [x])).length ≤ 1000000 := by
        have h1 := tells_len HI.out.tell
        have h2 := HPL.out
        rw [HNX.out, List.length_append] at h2
        have h3 : (FF t k p x).length = 1 + (sb k t (p ++ [x])).length := by unfold FF; rw [List.length_cons]; omega
        have h4 := HC.out
        have h5 := HNN.out
        rw [hl9, ← h5, List.length_append]
        omega
      have HR := Lib.hid (HREC.out x HXM.out we (nn + 1) c3 uc2 A3 UA2 _ hl9 hS hcap)
      rw [HY.out] at HR
      have HUP := Lib.hid (fun v9 new9 w9 (hI9 : ItR we N t L B (.slice A3 (nn + 1) c3) ((its ++ new) ++ [(⟨jnT (p ++ [x]), d, G, gc, Crc.tx s⟩ : It)]) (.slice UA2 (m + 1) uc2) (p ++ [x]) (sb k t (p ++ [x])) v9 new9 w9) =>
        show ItR w1 N t L B (.slice VA n vc) its (.slice UA m uc) p (((kidT t p).take (j + 1)).flatMap (FF t k p)) v9 (new ++ (⟨jnT (p ++ [x]), d, G, gc, Crc.tx s⟩ :: new9)) w9 from by
          have hup := ItR.up (y := th t (p ++ [x])) HSTA.out HCH.out HCASE.out hbd hch2 hv3 hGf hI9 (by unfold th; rw [HV1.out]; rfl)
          rw [HNX.out]
          exact HI.out.more hup)
      clear hS hGf hbd hch2 hv3 hl9 hcap hk0 hk1 hw0 hw1 hl5
      go_wp2_with fail
      refine HR.out.mono ?_
      rintro e w9 ⟨v9, new9, rfl, hI9⟩
      have hfin := HUP.out v9 new9 w9 hI9
      obtain ⟨A9, c9, rfl⟩ := row_slice3 hfin.sta.acc.row
      obtain ⟨n9, hn9⟩ : ∃ n9, n9 = (its ++ (new ++ (⟨jnT (p ++ [x]), d, G, gc, Crc.tx s⟩ :: new9))).length := ⟨_, rfl⟩
      rw [← hn9] at hfin ⊢
      have HFIN := Lib.hid hfin
      have HN9 := Lib.hid hn9
      clear hI9 hfin hn9
      go_wp2
      exact ⟨⟨j + 1, n9, c9, A9, _, by omega, rfl, by go_num, HN9.out.symm, HFIN.out⟩, by simp [intOf]; omega⟩
    · obtain rfl : j = K := by omega
      have HF := Lib.hid (show ItR w N t L B (.slice VA n vc) its (.slice UA m uc) p (sb (k + 1) t p) (.slice AA nn cc) new wr from by
        have := HI.out
        rw [HK.out, List.take_length, ← sb_FF] at this
        exact ItR.after HB1.out this)
      go_wp2
      go_ret
      exact ⟨_, new, rfl, HF.out⟩
end Trk
end Go.Proofs.YtkhkcfbacnkcnaaGreatDoor
/- The program's All. -/
namespace Go.Proofs.YtkhkcfbacnkcnaaGreatDoor
open Go.RowKit Go.MapKept
namespace Trk
open Tre (Nm Th It Its eqI smT allT jnT kidL kidT)

theorem items_any : ∀ (k : Nat) (w : World) (N : Nat) (t : List Th) (L : Nm → Nd) (B n vc m uc : Nat) (VA UA : Option Addr) (its : List It) (p : Nm) (v0 : Bool × ByteArray), Wf t → t.length ≤ 100000 → its.length = n → p.length = m → T t p = some v0 →
    Sta w N t L B (.slice VA n vc) its (.slice UA m uc) p → its.length + (sb (k + 1) t p).length ≤ 1000000 → 64 ≤ p.length + k →
    Calls Tryz.prog 47 #[.pointer (some ⟨(L p).b, 0, none⟩), .slice VA n vc, .slice UA m uc] w fun e w' => ∃ v' new, e = .returned v' ∧ ItR w N t L B (.slice VA n vc) its (.slice UA m uc) p (sb (k + 1) t p) v' new w' := by
  intro k
  induction k with
  | zero =>
    intro w N t L B n vc m uc VA UA its p v0 hW hl hn hm hv h hc hk
    refine items_step w N 0 t L B n vc m uc VA UA its p v0 hW hl hn hm hv h hc (fun x hx => ?_)
    obtain ⟨u, hu⟩ := Option.isSome_iff_exists.1 ((kidL_mem hW.once).1 ((kidT_perm t p).mem_iff.1 hx))
    have := (hW.nm _ (T_mem (by simp) hu)).2.1
    simp at this
    omega
  | succ k ih =>
    intro w N t L B n vc m uc VA UA its p v0 hW hl hn hm hv h hc hk
    refine items_step w N (k + 1) t L B n vc m uc VA UA its p v0 hW hl hn hm hv h hc (fun x hx W n' vc' uc' VA' UA' its' hn' hs hc' => ?_)
    obtain ⟨u, hu⟩ := Option.isSome_iff_exists.1 ((kidL_mem hW.once).1 ((kidT_perm t p).mem_iff.1 hx))
    exact ih W N t L B n' vc' (m + 1) uc' VA' UA' its' (p ++ [x]) u hW hl hn' (by simp [hm]) hu hs hc' (by simp; omega)

theorem tells_at {its : List It} {l : List Th} (h : tells its = told l) {j : Nat} (hj : j < its.length) (hl : j < l.length) : its[j].p = jnT l[j].1 ∧ its[j].d = l[j].2.1 ∧ its[j].b = Crc.tx l[j].2.2 := by
  have := congrArg (·[j]?) h
  simp only [tells, told, List.getElem?_map, List.getElem?_eq_getElem hj, List.getElem?_eq_getElem hl, Option.map_some, Option.some.injEq, Prod.mk.injEq] at this
  exact this
theorem tells_sm {its : List It} {t : List Th} (h : tells its = told (allT t)) : smT its t = true := by
  unfold Tre.smT
  refine decide_eq_true ⟨tells_len h, fun j hj hl => ?_⟩
  obtain ⟨h1, h2, h3⟩ := tells_at h hj hl
  exact ⟨h1, h2, by rw [h3, Ent.str_tx]⟩
theorem acc_its {w : World} {B n c : Nat} {A : Option Addr} {its : List It} (h : Acc w B (.slice A n c) its) (hn : its.length = n) (hl : n ≤ 1000000) : Its w A its := by
  refine ⟨by omega, fun g hg => ?_, fun j hj => ?_⟩
  · obtain ⟨h1, h2, h3, h4, _⟩ := h.ok g hg
    refine ⟨by omega, ?_, Crc.own_bts h3 h4 (by omega), ?_⟩
    · rcases h3.2 with ⟨e, h0⟩ | ⟨q, cap, cur, e, _, _, hq, _⟩
      · omega
      · simp only [Value.slice.injEq] at e
        omega
    · intro ea
      rcases h3.2 with ⟨e, h0⟩ | ⟨q, cap, cur, e, _⟩
      · simp only [Value.slice.injEq] at e
        exact e.2.2
      · simp only [Value.slice.injEq] at e
        rw [ea] at e
        cases e.1
  · obtain ⟨f0, f1, f2⟩ := icells_get hj
    rcases h.row.2 with ⟨e, h0⟩ | ⟨g, cap, cur, e, hB, hh, _, _, _, ht⟩
    · omega
    · simp only [Value.slice.injEq] at e
      have key : ∀ i, i < its.length * 3 → w.cell? ⟨g, 0 + i, none⟩ = (icells its)[i]? := fun i hi => by
        have := congrArg (·[i]?) ht
        rw [List.getElem?_take, if_pos hi] at this
        unfold World.cell?
        rw [hh, Nat.zero_add]
        simp only
        rw [← Array.getElem?_toList]
        exact this
      exact ⟨g, 0, e.1, (Array.getElem?_eq_some_iff.1 hh).1, (key _ (by omega)).trans f0, (key (j * 3 + 1) (by omega)).trans f1, (key (j * 3 + 2) (by omega)).trans f2⟩
set_option maxRecDepth 100000 in
set_option maxHeartbeats 1000000 in
theorem all_any (w : World) (N b0 : Nat) (t : List Th) (L : Nm → Nd) (hM : Mem w N t L) (hb : (L []).b = b0) (hW : Wf t) (hl : t.length ≤ 100000) :
    Calls Tryz.prog 14 #[.pointer (some ⟨b0, 0, none⟩)] w fun e w' => ∃ (A : Option Addr) (c : Nat) (its : List It), e = .returned (.slice A its.length c) ∧ Its w' A its ∧ tells its = told (allT t) ∧ Acc w' w.heap.size (.slice A its.length c) its ∧ Below w.heap.size w w' := by
  have hln : (sb 65 t []).length = t.length := by rw [sb_all hW (by omega)]; exact Tre.sorted_len _ _
  have hs : Sta w N t L w.heap.size (.slice none 0 0) [] (.slice none 0 0) [] :=
    ⟨hM, fun i hi => hM.lt hi, Nat.le_refl _, ⟨World.ownsRow_nil _ _ _ _, fun g hg => by simp at hg⟩, World.ownsRow_nil _ _ _ _, fun k hk => (by cases hk), fun g hg => (by simp at hg)⟩
  have HI := Lib.hid (items_any 64 w N t L w.heap.size 0 0 0 0 none none [] [] _ hW hl rfl rfl (T_root t) hs (by rw [hln]; simp; omega) (by simp))
  rw [hb] at HI
  have HALL := Lib.hid (sb_all hW (k := 65) (by omega))
  have HLN := Lib.hid hln
  clear hM hs hln
  go_enter Tryz.func14, Tryz.ntmps14
  go_wp2_with fail
  refine HI.out.mono ?_
  rintro e w' ⟨v', new, rfl, hI⟩
  have ha := hI.sta.acc
  rw [List.nil_append] at ha
  have ht := hI.tell
  have hn := tells_len ht
  rw [HLN.out] at hn
  rw [HALL.out] at ht
  obtain ⟨A, c, rfl⟩ := row_slice3 ha.row
  have HR := Lib.hid (show Its w' A new ∧ tells new = told (allT t) ∧ Acc w' w.heap.size (.slice A new.length c) new ∧ Below w.heap.size w w' from ⟨acc_its ha rfl (by omega), ht, ha, hI.chg.below (Nat.le_refl _) (fun i hi => by rcases hi with hi | hi <;> cases hi)⟩)
  obtain ⟨n, hnn⟩ : ∃ n, n = new.length := ⟨_, rfl⟩
  rw [← hnn]
  have HNN := Lib.hid hnn
  clear hI ha ht hn hnn
  go_wp2
  go_ret
  exact ⟨A, c, new, by rw [← HNN.out]; rfl, HR.out.1, HR.out.2.1, HR.out.2.2.1, HR.out.2.2.2⟩
end Trk
end Go.Proofs.YtkhkcfbacnkcnaaGreatDoor
/- CrcSums, walked: both sums are the document's, as of all bytes in one. -/
namespace Go.Proofs.YtkhkcfbacnkcnaaGreatDoor
open Go.RowKit Go.MapKept
namespace Crc

section
variable {w : World}
theorem str_append (l m : List Nat) : str (l ++ m) = str l ++ str m := by
  apply ByteArray.ext
  rw [ByteArray.data_append]
  simp [str]

theorem flat_len {ps : List Prt} (h : ∀ i (h : i < ps.length), ps[i].l.length ≤ 200) : (flat ps).length ≤ 200 * ps.length := by
  induction ps with
  | nil => simp [flat]
  | cons q ps ih =>
    have h0 := h 0 (by simp)
    have h1 := ih (fun i hi => by
      have := h (i + 1) (by simpa using hi)
      simpa using this)
    simp only [flat, List.flatMap_cons, List.length_append, List.length_cons, List.getElem_cons_zero] at *
    omega

theorem bts_text (W : World) (s : ByteArray) (cap : Nat) (fr : Nat × Nat) (hs : s.size < 1000000000000) : Bts (W.alloc (.cells (bytesRow s cap) 5 fr)) (some ⟨W.heap.size, 0, none⟩) (tx s) :=
  ⟨tx_byt s, by rw [tx_len]; omega, fun j hj => ⟨W.heap.size, 0, rfl, by simp, by
    rw [World.cell?_alloc_mark, Nat.zero_add]
    rw [tx_len] at hj
    rw [bytesRow_at s cap j hj]
    congr 2
    simp [tx]⟩⟩

/-- a text's bytes, anew -/
theorem conv_bytes (W : World) (l : List Nat) (hb : Byt l) (hl : l.length ≤ 4000) : ∃ (W2 : World) (gc : Nat), (convert 9 30 (.string (str l))).run Tryz.prog W = .ok (.slice (some ⟨W.heap.size, 0, none⟩) l.length gc) W2 ∧ Bts W2 (some ⟨W.heap.size, 0, none⟩) l ∧ Below W.heap.size W W2 := by
  have h := run_bytes_of_string (P := Tryz.prog) W 9 30 5 (str l) Tryz.underlying9 Tryz.underlying30 Tryz.underlying5
  have hz := str_size l
  have hbt := bts_text W.drew (str l) (grownCap W (str l).size 0 5) ((bytesRow (str l) (grownCap W (str l).size 0 5)).size, (bytesRow (str l) (grownCap W (str l).size 0 5)).size + 1) (by omega)
  rw [tx_str hb] at hbt
  refine ⟨_, grownCap W (str l).size 0 5, ?_, hbt, (Below.refl _ _).drew.alloc (Nat.le_refl _) _⟩
  rw [h, hz]

end
end Crc
end Go.Proofs.YtkhkcfbacnkcnaaGreatDoor
/- Law 13's example. -/
namespace Go.Proofs.YtkhkcfbacnkcnaaGreatDoor
open Go.RowKit Go.MapKept
namespace Trk
open Tre (Nm Th fi isDirAt dirT goT goF setT dropT fileT addT zt datT unlinkT rmdirT kidT kidL fv writeT wrT truncT readT)
open Pat (Txs)

/-- a tree of the call's own -/
def Own (w0 : World) (B N : Nat) (t : List Th) (b : Nat) (w : World) : Prop := ∃ L, Mem w N t L ∧ (L []).b = b ∧ (∀ i, Fp t L i → B ≤ i) ∧ Below B w0 w ∧ B ≤ w.heap.size
theorem Own.keep {w0 w w' : World} {B N b : Nat} {t : List Th} (h : Own w0 B N t b w) (hb : Below w.heap.size w w') : Own w0 B N t b w' := by
  obtain ⟨L, h1, h2, h3, h4, h5⟩ := h
  exact ⟨L, h1.keep hb, h2, h3, h4.trans (hb.mono h5), Nat.le_trans h5 hb.size⟩
theorem Own.step {w0 w w' : World} {B N b : Nat} {t t' : List Th} {L : Nm → Nd} (hF : ∀ i, Fp t L i → B ≤ i) (hb : (L []).b = b) (hB : Below B w0 w) (hs : B ≤ w.heap.size) (h : TrkR w N t L t' w') : Own w0 B (N + 1) t' b w' := by
  obtain ⟨h1, L', h2, h3, h4⟩ := h
  refine ⟨L', h2, h3.trans hb, fun i hi => (h4 i hi).elim (hF i) (fun e => Nat.le_trans hs e), hB.trans (h1.below hs hF), Nat.le_trans hs h1.size⟩
theorem own_new {w w' : World} (hm : Mem w' 0 [] (L0 w.heap.size)) (hb : Below w.heap.size w w') : Own w w.heap.size 0 [] w.heap.size w' := by
  refine ⟨_, hm, rfl, fun i hi => ?_, hb, hb.size⟩
  obtain ⟨p, v, _, hi⟩ := hi
  have : i = w.heap.size := by simpa [own, L0] using hi
  omega

def t1 : List Th := [([⟨#[97]⟩], true, ByteArray.empty)]
def t2 : List Th := [([⟨#[97]⟩], true, ByteArray.empty), ([⟨#[97]⟩, ⟨#[98]⟩], false, ByteArray.empty)]
def t3 : List Th := [([⟨#[97]⟩], true, ByteArray.empty), ([⟨#[97]⟩, ⟨#[98]⟩], false, ⟨#[0, 0, 120]⟩)]
theorem e1 : addT [] ⟨#[47, 97]⟩ true = (t1, 0) := by kernel_rfl
theorem e2 : addT t1 ⟨#[47, 97, 47, 98]⟩ false = (t2, 0) := by kernel_rfl
theorem e3 : writeT t2 ⟨#[47, 97, 47, 98]⟩ 2 (Crc.str [120]) = (t3, 0) := by kernel_rfl
theorem e4 : rmdirT t3 ⟨#[47, 97]⟩ = (t3, 8) := by kernel_rfl
theorem e5 : readT t3 ⟨#[47, 97, 47, 98]⟩ 0 9 = (⟨#[0, 0, 120]⟩, 0) := by kernel_rfl
theorem w1f : Wf t1 := by
  have := wf_nil.add ⟨#[47, 97]⟩ true
  rw [e1] at this
  exact this
theorem w2f : Wf t2 := by
  have := w1f.add ⟨#[47, 97, 47, 98]⟩ false
  rw [e2] at this
  exact this
theorem w3f : Wf t3 := by
  have := w2f.write ⟨#[47, 97, 47, 98]⟩ 2 (bs := [120]) (by unfold Crc.Byt; decide)
  rw [e3] at this
  exact this
theorem bts_mark (w : World) : Crc.Bts (w.alloc (.cells #[.int .u8 120] 5 (1, 2))) (some ⟨w.heap.size, 0, none⟩) [120] := by
  refine ⟨by unfold Crc.Byt; decide, by decide, fun j hj => ⟨w.heap.size, 0, rfl, by simp, ?_⟩⟩
  obtain rfl : j = 0 := by simpa using hj
  rw [World.cell?_alloc_mark]
  rfl
section
variable {w0 w : World} {B b : Nat}
theorem mkdir_ex (h : Own w0 B 0 [] b w) :
    Calls Tryz.prog 30 #[.pointer (some ⟨b, 0, none⟩), .string ⟨#[47, 97]⟩] w fun e w' => e = .returned (.int .i64 0) ∧ Own w0 B 1 t1 b w' := by
  obtain ⟨L, h1, h2, h3, h4, h5⟩ := h
  have h := mkdir_any w 0 b [] L ⟨#[47, 97]⟩ h1 h2 wf_nil (by decide) (by decide)
  rw [e1] at h
  exact h.mono fun e w' hr => ⟨hr.1, Own.step h3 h2 h4 h5 hr.2⟩
theorem create_ex (h : Own w0 B 1 t1 b w) :
    Calls Tryz.prog 31 #[.pointer (some ⟨b, 0, none⟩), .string ⟨#[47, 97, 47, 98]⟩] w fun e w' => e = .returned (.int .i64 0) ∧ Own w0 B 2 t2 b w' := by
  obtain ⟨L, h1, h2, h3, h4, h5⟩ := h
  have h := create_any w 1 b t1 L ⟨#[47, 97, 47, 98]⟩ h1 h2 w1f (by decide) (by decide)
  rw [e2] at h
  exact h.mono fun e w' hr => ⟨hr.1, Own.step h3 h2 h4 h5 hr.2⟩
theorem write_ex {w1 : World} (c : Nat) (h : Own w0 B 2 t2 b w) (hb : Below w.heap.size w w1) (hB : Crc.Bts w1 (some ⟨w.heap.size, 0, none⟩) [120]) :
    Calls Tryz.prog 32 #[.pointer (some ⟨b, 0, none⟩), .string ⟨#[47, 97, 47, 98]⟩, .int .i64 2, .slice (some ⟨w.heap.size, 0, none⟩) 1 c] w1 fun e w' => e = .returned (.int .i64 0) ∧ Own w0 B 3 t3 b w' := by
  obtain ⟨L, h1, h2, h3, h4, h5⟩ := h
  have h := wr_any w1 2 b t2 L ⟨#[47, 97, 47, 98]⟩ 2 1 c _ [120] (h1.keep hb) h2 w2f (by decide) rfl (by decide) hB (fun ad e _ hi => by injection e with e; subst e; have := h1.lt hi; simp at this)
  rw [e3] at h
  exact h.mono fun e w' hr => ⟨hr.1, Own.step h3 h2 (h4.trans (hb.mono h5)) (Nat.le_trans h5 hb.size) hr.2⟩
theorem rmdir_ex (h : Own w0 B 3 t3 b w) :
    Calls Tryz.prog 33 #[.pointer (some ⟨b, 0, none⟩), .string ⟨#[47, 97]⟩] w fun e w' => e = .returned (.int .i64 8) ∧ Own w0 B 4 t3 b w' := by
  obtain ⟨L, h1, h2, h3, h4, h5⟩ := h
  have h := rmdir_any w 3 b t3 L ⟨#[47, 97]⟩ h1 h2 w3f (by decide)
  rw [e4] at h
  exact h.mono fun e w' hr => ⟨hr.1, Own.step h3 h2 h4 h5 hr.2⟩
theorem read_ex (h : Own w0 B 4 t3 b w) :
    Calls Tryz.prog 34 #[.pointer (some ⟨b, 0, none⟩), .string ⟨#[47, 97, 47, 98]⟩, .int .i64 0, .int .i64 9] w fun e w' => ∃ (G : Option Addr) (gc : Nat), e = .returned (.tuple #[.slice G 3 gc, .int .i64 0]) ∧ Crc.Bts w' G [0, 0, 120] ∧ Below B w0 w' := by
  obtain ⟨L, h1, h2, h3, h4, h5⟩ := h
  have h := rd_any w 4 b t3 L ⟨#[47, 97, 47, 98]⟩ 0 9 h1 h2 w3f (by decide) (by decide) (by decide)
  rw [e5] at h
  refine h.mono ?_
  rintro e w' ⟨G, n, gc, rfl, hn, ho, hb'⟩
  obtain rfl : n = 3 := by rw [← hn]; rfl
  exact ⟨G, gc, rfl, Crc.own_bts ho (by unfold Crc.Byt; decide) (by decide), h4.trans (hb'.mono h5)⟩
end

set_option maxRecDepth 100000 in
set_option maxHeartbeats 1000000 in
theorem lives_any (w : World) : Calls Tryz.prog 7 #[] w fun e w' => e = .returned (.bool true) ∧ Below w.heap.size w w' := by
  have H0 := Lib.hid (new_any w)
  have H1 := Lib.hid Pat.lives_any
  go_enter Tryz.func7, Tryz.ntmps7
  go_wp2_with fail
  refine H0.out.mono ?_
  rintro e wa ⟨rfl, hm, hb, _⟩
  have HA := Lib.hid (own_new hm hb)
  clear hm hb H0
  generalize hbb : w.heap.size = b at *
  have HBB := Lib.hid hbb
  clear hbb
  go_wp2_with fail
  refine (H1.out _).mono ?_
  rintro e wb ⟨rfl, hb⟩
  have HB := Lib.hid (HA.out.keep hb)
  clear hb
  go_wp2_with fail
  refine (mkdir_ex HB.out).mono ?_
  rintro e wc ⟨rfl, hc⟩
  have HC := Lib.hid hc
  clear hc
  go_wp2_with fail
  refine (create_ex HC.out).mono ?_
  rintro e wd ⟨rfl, hd⟩
  have HD := Lib.hid hd
  clear hd
  have hcv := Crc.conv_new wd #[.int .u8 120] 1 1
  have HE := Lib.hid (write_ex 1 HD.out ((Below.refl _ wd).alloc (Nat.le_refl _) (.cells #[.int .u8 120] 5 (1, 2))) (bts_mark wd))
  go_wp2_with fail
  refine HE.out.mono ?_
  rintro e wf ⟨rfl, hf⟩
  have HF := Lib.hid hf
  clear hf
  go_wp2_with fail
  refine (rmdir_ex HF.out).mono ?_
  rintro e wg ⟨rfl, hg⟩
  have HG := Lib.hid hg
  clear hg
  go_wp2_with fail
  refine (read_ex HG.out).mono ?_
  rintro e wh ⟨G, gc2, rfl, hbt, hbh⟩
  have HH := Lib.hid hbh
  have hcs := Crc.conv_str gc2 hbt
  simp only [show Crc.str [0, 0, 120] = ⟨#[0, 0, 120]⟩ from rfl, List.length_cons, List.length_nil, Nat.zero_add] at hcs
  clear hbt hbh
  go_wp2
  go_ret
  exact ⟨rfl, by rw [HBB.out]; exact HH.out⟩
end Trk
end Go.Proofs.YtkhkcfbacnkcnaaGreatDoor
/- The program's add, Of: a tree of items. -/
namespace Go.Proofs.YtkhkcfbacnkcnaaGreatDoor
open Go.RowKit Go.MapKept
namespace Trk
open Tre (Nm Th It Its addT writeT fileT allT)

/-- a tree as deeds leave it -/
def TrkN (w : World) (N' : Nat) (t : List Th) (L : Nm → Nd) (t' : List Th) (w' : World) : Prop :=
  Chg (Fp t L) w w' ∧ ∃ L', Mem w' N' t' L' ∧ (L' []).b = (L []).b ∧ ∀ i, Fp t' L' i → Fp t L i ∨ w.heap.size ≤ i
theorem TrkR.to {w w' : World} {N N' : Nat} {t t' : List Th} {L : Nm → Nd} (h : TrkR w N t L t' w') (hN : N + 1 ≤ N') : TrkN w N' t L t' w' := by
  obtain ⟨h1, L', h2, h3⟩ := h
  exact ⟨h1, L', h2.mono hN, h3⟩
theorem TrkN.after {w w1 w' : World} {N' : Nat} {t t' : List Th} {L : Nm → Nd} (hb : Below w.heap.size w w1) (h : TrkN w1 N' t L t' w') : TrkN w N' t L t' w' := by
  obtain ⟨h1, L', h2, h3, h4⟩ := h
  exact ⟨Chg.after hb h1, L', h2, h3, fun i hi => (h4 i hi).imp id (fun e => Nat.le_trans hb.size e)⟩
theorem TrkN.then {w w1 w2 : World} {N2 : Nat} {t t1 t2 : List Th} {L L1 : Nm → Nd} (hc : Chg (Fp t L) w w1) (hf : ∀ i, Fp t1 L1 i → Fp t L i ∨ w.heap.size ≤ i) (hb : (L1 []).b = (L []).b) (h : TrkN w1 N2 t1 L1 t2 w2) : TrkN w N2 t L t2 w2 := by
  obtain ⟨h1, L2, h2, h3, h4⟩ := h
  exact ⟨hc.trans h1 hf, L2, h2, h3.trans hb, fun i hi => (h4 i hi).elim (hf i) (fun e => .inr (Nat.le_trans hc.size e))⟩
theorem bts_chg {w w' : World} {F : Nat → Prop} {A : Option Addr} {l : List Nat} (h : Crc.Bts w A l) (hc : Chg F w w') (hA : ∀ ad, A = some ad → l ≠ [] → ¬ F ad.block) : Crc.Bts w' A l :=
  ⟨h.byt, h.len, fun j hj => by
    obtain ⟨g, o, e, hlt, hcl⟩ := h.at' j hj
    have hg := hA _ e (fun h0 => by rw [h0] at hj; simp at hj)
    exact ⟨g, o, e, Nat.lt_of_lt_of_le hlt hc.size, (World.cell?_of_block (w := w) (a := ⟨g, o + j, none⟩) (hc.block g hlt hg)).trans hcl⟩⟩
theorem bts_blk {w : World} {A : Option Addr} {l : List Nat} (h : Crc.Bts w A l) {ad : Addr} (e : A = some ad) (h0 : l ≠ []) : ad.block < w.heap.size := by
  obtain ⟨b, o, e', hlt, _⟩ := h.at' 0 (List.length_pos_iff.2 h0)
  rw [e] at e'
  injection e' with e'
  rw [e']
  exact hlt
/-- an item's thing -/
def addI (t : List Th) (p : ByteArray) (d : Bool) (bs : List Nat) : List Th × Int :=
  if d = true then (if (addT t p true).2 ≠ 0 then addT t p true else if 0 < bs.length then ((addT t p true).1, 9) else ((addT t p true).1, 0))
  else (if (addT t p false).2 ≠ 0 then addT t p false else writeT (addT t p false).1 p 0 (Crc.str bs))
theorem Wf.addI {t : List Th} (hW : Wf t) (p : ByteArray) (d : Bool) {bs : List Nat} (hb : Crc.Byt bs) : Wf (addI t p d bs).1 := by
  unfold Trk.addI
  cases d with
  | true =>
    rw [if_pos rfl]
    split
    · exact hW.add p true
    · split <;> exact hW.add p true
  | false =>
    rw [if_neg (by decide)]
    split
    · exact hW.add p false
    · exact (hW.add p false).write p 0 hb
end Trk
end Go.Proofs.YtkhkcfbacnkcnaaGreatDoor
/- The program's Truncate. -/
namespace Go.Proofs.YtkhkcfbacnkcnaaGreatDoor
open Go.RowKit Go.MapKept
namespace Trk
open Tre (Nm Th fi isDirAt dirT goT goF setT dropT fileT addT zt datT truncT)
open Pat (Txs)

/-- other bytes in a thing's block -/
theorem Nod.setD {w : World} {N : Nat} {x : Nd} {f : ByteArray → Option Nat} {d : Bool} {s s' : ByteArray} (h : Nod w N x f d s) (h1 : (own x).Nodup) {A' : Option Addr} {n c' : Nat} (hn : s'.size = n) (ho : w.ownsRow 0 5 1 (.slice A' n c') n (Crc.u8s (Crc.tx s'))) (hne : ∀ a, A' = some a → a.block ≠ x.b) :
    Nod (w.setCell ⟨x.b, 1, none⟩ (.slice A' n c')) N ⟨x.b, A', c', x.m⟩ f d s' := by
  subst hn
  have hoth : ∀ k, k ≠ x.b → (w.setCell ⟨x.b, 1, none⟩ (.slice A' s'.size c')).heap[k]? = w.heap[k]? := fun k hk => Below.heap_setCell _ _ _ k hk
  refine ⟨?_, ?_, ?_⟩
  · obtain ⟨ty, hb⟩ := h.box
    exact ⟨ty, heap_setCell_same _ _ 1 _ _ (.slice A' s'.size c') hb⟩
  · rcases ho with ⟨r1, r2⟩
    refine ⟨r1, ?_⟩
    rcases r2 with r0 | ⟨q, cap, cur, e, hB, hh, hr⟩
    · exact .inl r0
    · have hA : A' = some ⟨q, 0, none⟩ := by injection e
      exact .inr ⟨q, cap, cur, e, hB, (hoth q (hne _ hA)).trans hh, hr⟩
  · have hk := h.map
    cases hm : x.m with
    | none => rw [hm] at hk; exact hk
    | some g =>
      rw [hm] at hk
      obtain ⟨D, hD⟩ := hk
      refine ⟨D, hD.block (hoth g (fun e => ?_))⟩
      unfold own at h1
      rw [hm] at h1
      simp [e] at h1
theorem Chg.set {F : Nat → Prop} (w : World) (b o : Nat) (v : Value) (h : F b) : Chg F w (w.setCell ⟨b, o, none⟩ v) :=
  ⟨rfl, rfl, rfl, by simp [World.setCell], fun k _ hk => Below.heap_setCell _ _ _ k (fun e => hk (e ▸ h))⟩
theorem own_A {x : Nd} {a : Addr} (h1 : (own x).Nodup) (hA : x.A = some a) : a.block ≠ x.b := fun e => by
  unfold own at h1
  rw [hA] at h1
  simp [e] at h1
/-- one deed behind another -/
theorem DatR.then {w w1 w2 : World} {N : Nat} {x : Nd} {f : ByteArray → Option Nat} {d : Bool} {s2 : ByteArray} {A1 : Option Addr} {c1 : Nat} (hA1 : ∀ a, A1 = some a → x.A.map (·.block) = some a.block ∨ w.heap.size ≤ a.block) (hc : Chg (· ∈ own x) w w1)
    (h : DatR w1 N ⟨x.b, A1, c1, x.m⟩ f d s2 w2) : DatR w N x f d s2 w2 := by
  obtain ⟨A2, c2, hN, hA2, hc2⟩ := h
  refine ⟨A2, c2, hN, fun a e => ?_, hc.trans hc2 (fun i hi => ?_)⟩
  · rcases hA2 a e with h | h
    · cases hA : A1 with
      | none => simp only [hA] at h; cases h
      | some a1 =>
        simp only [hA, Option.map_some, Option.some.injEq] at h
        rw [← h]
        exact hA1 a1 hA
    · exact .inr (Nat.le_trans hc.size h)
  · rw [own_mem] at hi
    simp only at hi
    rcases hi with hi | hi | hi
    · exact .inl (own_mem.2 (.inl hi))
    · exact .inl (own_mem.2 (.inr (.inl hi)))
    · cases hA : A1 with
      | none => rw [hA] at hi; cases hi
      | some a1 =>
        rw [hA] at hi
        simp only [Option.map_some, Option.some.injEq] at hi
        subst hi
        rcases hA1 a1 hA with h | h
        · exact .inl (own_mem.2 (.inr (.inr h)))
        · exact .inr h
/-- just so many bytes -/
def cut (s : ByteArray) (n : Nat) : ByteArray := (pad s n).extract 0 n
theorem pad_max (s : ByteArray) (n : Nat) : (pad s n).size = max s.size n := by
  by_cases h : s.size ≤ n
  · rw [pad_size h]; omega
  · rw [pad_none (by omega)]; omega
theorem cut_size (s : ByteArray) (n : Nat) : (cut s n).size = n := by
  unfold cut
  rw [ByteArray.size_extract, pad_max]
  omega
theorem tx_cut (s : ByteArray) (n : Nat) : Crc.tx (cut s n) = (Crc.tx (pad s n)).take n := by
  unfold cut
  rw [Ent.tx_extract]
  rfl
theorem cut_trunc (s : ByteArray) (n : Nat) : cut s n = if (s.size : Int) < (n : Int) then s ++ zt ((n : Int) - s.size).toNat else s.extract 0 (n : Int).toNat := by
  by_cases h : (s.size : Int) < (n : Int)
  · rw [if_pos h]
    apply Ent.tx_inj
    rw [tx_cut, List.take_of_length_le (by rw [Crc.tx_len, pad_max]; omega), tx_pad, tx_app, tx_zt, show ((n : Int) - s.size).toNat = n - s.size by omega]
  · rw [if_neg h]
    unfold cut
    rw [pad_none (by omega)]
    rfl

set_option maxRecDepth 100000 in
set_option maxHeartbeats 1000000 in
theorem resize_any (w : World) (N : Nat) (x : Nd) (f : ByteArray → Option Nat) (d : Bool) (s : ByteArray) (n : Nat) (h : Nod w N x f d s) (h1 : (own x).Nodup) (hs : s.size ≤ 268435456) (hn : n ≤ 268435456) :
    Calls Tryz.prog 75 #[.pointer (some ⟨x.b, 0, none⟩), .int .i64 (n : Int)] w fun e w' => e = .returned (.tuple #[]) ∧ DatR w N x f d (cut s n) w' := by
  have HG := Lib.hid (grow_any w N x f d s n h h1 hs hn)
  have H := Lib.hid h
  have H1 := Lib.hid h1
  clear h h1
  go_enter Tryz.func75, Tryz.ntmps75
  go_wp2_with fail
  refine HG.out.mono ?_
  rintro e w1 ⟨rfl, A1, c1, hN1, hA1, hc1⟩
  have ho1 := dat_nodup (c' := c1) H1.out (fun i hi => H.out.lt i hi) hA1
  obtain ⟨k, hk⟩ : ∃ k, k = (pad s n).size := ⟨_, rfl⟩
  have hkn : n ≤ k := by rw [hk, pad_max]; omega
  have hcell := hN1.c1
  have hfr := hN1.fr 1
  have hrow := hN1.row
  rw [← hk] at hcell hrow
  have hrow2 := own_shrink hrow hkn
  have hsh : (Crc.u8s (Crc.tx (pad s n))).take n = Crc.u8s (Crc.tx (cut s n)) := by
    rw [tx_cut]
    unfold Crc.u8s
    rw [List.map_take]
  rw [hsh] at hrow2
  have hkc : k ≤ c1 := by
    rcases hrow.2 with ⟨e, h0⟩ | ⟨g, cap, cur, e, _, _, h1, _⟩
    · omega
    · simp only [Value.slice.injEq] at e
      omega
  have HN2 := Lib.hid (Nod.setD hN1 ho1 (cut_size s n) hrow2 (fun a e => own_A ho1 e))
  have HA1 := Lib.hid hA1
  have HC1 := Lib.hid hc1
  have HO1 := Lib.hid ho1
  clear hN1 ho1 hA1 hc1 hrow hrow2 hsh hk
  have HFIN := Lib.hid (show DatR w N x f d (cut s n) (w1.setCell ⟨x.b, 1, none⟩ (.slice A1 n c1)) from ⟨A1, c1, HN2.out, HA1.out, HC1.out.trans (Chg.set (F := (· ∈ own x)) w1 x.b 1 _ (own_mem.2 (.inl rfl))) (fun _ h => .inl h)⟩)
  have hcs : (Crc.tx (cut s n)).length = n := by rw [Crc.tx_len, cut_size]
  have HCL := Lib.hid (bclone_any (w1.setCell ⟨x.b, 1, none⟩ (.slice A1 n c1)) A1 n c1 (Crc.tx (cut s n)) (Crc.own_bts (by have := HN2.out.row; rw [cut_size] at this; exact this) (tx_byt _) (by omega)) hcs (by omega))
  have HCC := Lib.hid (HC1.out.trans (Chg.set (F := (· ∈ own x)) w1 x.b 1 (.slice A1 n c1) (own_mem.2 (.inl rfl))) (fun _ h => .inl h))
  have HA2 := Lib.hid (show ∀ a, A1 = some a → x.A.map (·.block) = some a.block ∨ w.heap.size ≤ a.block from HA1.out)
  clear hcs
  go_wp2_with fail
  · generalize w1.setCell ⟨x.b, 1, none⟩ (.slice A1 n c1) = w2 at *
    refine HCL.out.mono ?_
    rintro e w3 ⟨G, gc, rfl, hro, hb3⟩
    have hcs : (Crc.tx (cut s n)).length = n := by rw [Crc.tx_len, cut_size]
    rw [hcs] at hro ⊢
    have hlt2 := HN2.out.lt
    have HN3 := HN2.out.block (w' := w3) (fun i hi => hb3.block i (hlt2 i hi))
    have hGb : ∀ a, G = some a → w2.heap.size ≤ a.block := fun a e => by
      rcases hro.2 with ⟨e', _⟩ | ⟨g, cap, cur, e', hB, _⟩
      · simp only [Value.slice.injEq] at e'
        rw [e] at e'
        cases e'.1
      · simp only [Value.slice.injEq] at e'
        rw [e] at e'
        injection e'.1 with e1
        rw [e1]
        exact hB
    have hxb := hlt2 x.b (own_mem.2 (.inl rfl))
    have HN4 := Nod.setD HN3 HO1.out (cut_size s n) (own_low hro (Nat.zero_le _)) (fun a e => by have := hGb a e; simp only; omega)
    have hcell3 := HN3.c1
    have hfr3 := HN3.fr 1
    rw [cut_size] at hcell3
    have HR := Lib.hid (show DatR w N x f d (cut s n) (w3.setCell ⟨x.b, 1, none⟩ (.slice G n gc)) from
      DatR.then HA2.out HCC.out ⟨G, gc, HN4, fun a e => .inr (hGb a e), (Chg.of_below hb3).trans (Chg.set (F := (· ∈ own (⟨x.b, A1, c1, x.m⟩ : Nd))) w3 x.b 1 _ (own_mem.2 (.inl rfl))) (fun _ h => .inl h)⟩)
    clear hro hb3 HN3 HN4 hGb hlt2 hcs
    go_wp2
    go_end0
    exact ⟨rfl, HR.out⟩
  · go_end0
    exact ⟨rfl, HFIN.out⟩
set_option maxRecDepth 100000 in
set_option maxHeartbeats 1000000 in
theorem trunc_any (w : World) (N b0 : Nat) (t : List Th) (L : Nm → Nd) (p : ByteArray) (x : Int) (hM : Mem w N t L) (hb : (L []).b = b0) (hW : Wf t) (hp : p.size < 4294967281) :
    Calls Tryz.prog 42 #[.pointer (some ⟨b0, 0, none⟩), .string p, .int .i64 x] w fun e w' => e = .returned (.int .i64 (truncT t p x).2) ∧ TrkR w N t L (truncT t p x).1 w' := by
  have HM := Lib.hid hM
  clear hM
  go_enter Tryz.func42, Tryz.ntmps42
  go_wp2_with fail
  refine (fileAt_any w N b0 t L p HM.out hb hp).mono ?_
  rintro e w1 ⟨hf, hb1⟩
  have HB1 := Lib.hid hb1
  have HM1 := Lib.hid (HM.out.keep hb1)
  clear hb1
  rcases hf with ⟨he, rfl⟩ | ⟨n, i, s, hf, rfl⟩
  · have HZ := Lib.hid (show truncT t p x = (t, (fileT t p).2) by unfold Tre.truncT; rw [if_pos he])
    generalize hg : (fileT t p).2 = g at *
    clear hg
    go_wp2
    refine bodyPost_ret (v := .int .i64 g) ?_ rfl ⟨by rw [HZ.out], by rw [HZ.out]; exact TrkR.same HM.out HB1.out⟩
    simp [results, Tryz.results42, go_sem]
  · obtain ⟨f1, f2, f3⟩ := fileT_file hf
    have HF := Lib.hid hf
    have HZ1 := Lib.hid (show truncT t p x = if x < 0 ∨ 268435456 < x then (t, 9) else (setT t i (if (s.size : Int) < x then s ++ zt (x - s.size).toNat else s.extract 0 x.toNat), 0) by unfold Tre.truncT; rw [if_neg (fun h => h f3), f1, f2])
    clear f1 f2 f3 hf
    by_cases hx : x < 0 ∨ 268435456 < x
    · have HZ := Lib.hid (HZ1.out.trans (if_pos hx))
      generalize L n = y at *
      by_cases hx0 : x < 0
      · clear hx
        go_wp2
        refine bodyPost_ret (v := .int .i64 9) ?_ rfl ⟨by rw [HZ.out], by rw [HZ.out]; exact TrkR.same HM.out HB1.out⟩
        simp [results, Tryz.results42, go_sem]
      · have hx1 : 268435456 < x := by omega
        clear hx
        go_wp2
        refine bodyPost_ret (v := .int .i64 9) ?_ rfl ⟨by rw [HZ.out], by rw [HZ.out]; exact TrkR.same HM.out HB1.out⟩
        simp [results, Tryz.results42, go_sem]
    · obtain ⟨a, rfl⟩ : ∃ a : Nat, x = (a : Int) := ⟨x.toNat, by omega⟩
      have hx0 : ¬ (a : Int) < 0 := by omega
      have hx1 : ¬ 268435456 < (a : Int) := by omega
      have HZ := Lib.hid (HZ1.out.trans (if_neg hx))
      have HN := Lib.hid (HM1.out.nod _ _ _ HF.out.at')
      have HTW := Lib.hid (resize_any w1 N (L n) (kb t L n) false s a HN.out (HM1.out.one _ _ HF.out.at') (hW.fsize HF.out.at') (by omega))
      clear hx
      generalize hy : L n = y at *
      go_wp2_with fail
      refine HTW.out.mono ?_
      rintro e w2 ⟨rfl, hr⟩
      have HR := Lib.hid (show TrkR w N t L (truncT t p (a : Int)).1 w2 from by
        rw [← hy] at hr
        refine TrkR.after HB1.out ?_
        rw [HZ.out, ← cut_trunc]
        obtain ⟨A', c', q1, q2, q3⟩ := HM1.out.dat HF.out.at' (t' := setT t i (cut s a)) (T_set HF.out.ne HF.out.fi HF.out.at' _) hr
        exact ⟨q2, _, q1.mono (Nat.le_succ N), Ld_b, q3⟩)
      clear hr
      go_wp2
      refine bodyPost_ret (v := .int .i64 0) ?_ rfl ⟨by rw [HZ.out], HR.out⟩
      simp [results, Tryz.results42, go_sem]
theorem Wf.trunc {t : List Th} (hW : Wf t) (p : ByteArray) (x : Int) : Wf (truncT t p x).1 := by
  unfold Tre.truncT
  by_cases he : (fileT t p).2 ≠ 0
  · rw [if_pos he]; exact hW
  · rw [if_neg he]
    obtain ⟨n, i, s, hf⟩ := file_yes (by simpa using he)
    obtain ⟨f1, f2, _⟩ := fileT_file hf
    rw [f1, f2]
    by_cases hx : x < 0 ∨ 268435456 < x
    · rw [if_pos hx]; exact hW
    · rw [if_neg hx]
      obtain ⟨a, rfl⟩ : ∃ a : Nat, x = (a : Int) := ⟨x.toNat, by omega⟩
      rw [← cut_trunc]
      refine hW.set hf.ne hf.fi hf.at' ?_
      rw [cut_size]
      omega
end Trk
end Go.Proofs.YtkhkcfbacnkcnaaGreatDoor
/- Law 13's act: an act on the program's tree. -/
namespace Go.Proofs.YtkhkcfbacnkcnaaGreatDoor
open Go.RowKit Go.MapKept
namespace Trk
open Tre (Nm Th addT writeT truncT unlinkT rmdirT readT listT doT)
open Pat (Txs)

/-- the answer of an act: a number, a text, names; the tree behind it -/
def ActR (w : World) (N : Nat) (t : List Th) (L : Nm → Nd) (r : List Th × Int × ByteArray × List ByteArray) (e : Ending) (w' : World) : Prop :=
  ∃ (G : Option Addr) (gc : Nat), e = .returned (.tuple #[.int .i64 r.2.1, .string r.2.2.1, .slice G r.2.2.2.length gc]) ∧ Txs w' G r.2.2.2 ∧ TrkN w (N + 1) t L r.1 w'
theorem TrkN.same {w w' : World} {N : Nat} {t : List Th} {L : Nm → Nd} (h : Mem w N t L) (hb : Below w.heap.size w w') : TrkN w (N + 1) t L t w' :=
  ⟨Chg.of_below hb, L, (h.keep hb).mono (Nat.le_succ N), rfl, fun _ hi => .inl hi⟩

set_option maxRecDepth 100000 in
set_option maxHeartbeats 4000000 in
theorem act_0 (w : World) (N b0 k : Nat) (t : List Th) (L : Nm → Nd) (p : ByteArray) (x n : Int) (m d : Nat) (B : Option Addr) (hM : Mem w N t L) (hb : (L []).b = b0) (hW : Wf t) (hp : p.size < 4294967281) (hN : N ≤ 999999) (hk : k % 8 = 0) :
    Calls Tryz.prog 11 #[.pointer (some ⟨b0, 0, none⟩), .agg #[.int .u8 (k : Int), .string p, .int .i64 x, .int .i64 n, .slice B m d]] w (ActR w N t L ((addT t p false).1, (addT t p false).2, ⟨#[]⟩, [])) := by
  have hb0 := (Below.refl w.heap.size w).alloc (Nat.le_refl _) (.cells #[.int .u8 (k : Int), .string p, .int .i64 x, .int .i64 n, .slice B m d] 32)
  have HB0 := Lib.hid hb0
  have e0 : ((k : Int) % 8 == 0) = true := by simp; omega
  have HC := Lib.hid (create_any (w.alloc (.cells #[.int .u8 (k : Int), .string p, .int .i64 x, .int .i64 n, .slice B m d] 32)) N b0 t L p (hM.keep hb0) hb hW hp (by omega))
  have HM := Lib.hid hM
  clear hb0 hk hM
  go_enter Tryz.func11, Tryz.ntmps11
  go_wp2_with fail
  refine HC.out.mono ?_
  rintro e w2 ⟨rfl, hr⟩
  have HR := Lib.hid (TrkN.after HB0.out (hr.to (N' := N + 1) (Nat.le_refl _)))
  clear hr
  generalize addT t p false = r at *
  go_wp2
  refine bodyPost_ret (v := .tuple #[.int .i64 r.2, .string ⟨#[]⟩, .slice none 0 0]) ?_ rfl ⟨none, 0, rfl, Pat.txs_nil _ _, HR.out⟩
  simp [results, Tryz.results11, go_sem]

set_option maxRecDepth 100000 in
set_option maxHeartbeats 4000000 in
theorem act_1 (w : World) (N b0 k : Nat) (t : List Th) (L : Nm → Nd) (p : ByteArray) (x n : Int) (m d : Nat) (B : Option Addr) (hM : Mem w N t L) (hb : (L []).b = b0) (hW : Wf t) (hp : p.size < 4294967281) (hN : N ≤ 999999) (hk : k % 8 = 1) :
    Calls Tryz.prog 11 #[.pointer (some ⟨b0, 0, none⟩), .agg #[.int .u8 (k : Int), .string p, .int .i64 x, .int .i64 n, .slice B m d]] w (ActR w N t L ((addT t p true).1, (addT t p true).2, ⟨#[]⟩, [])) := by
  have hb0 := (Below.refl w.heap.size w).alloc (Nat.le_refl _) (.cells #[.int .u8 (k : Int), .string p, .int .i64 x, .int .i64 n, .slice B m d] 32)
  have HB0 := Lib.hid hb0
  have e0 : ((k : Int) % 8 == 0) = false := by simp; omega
  have e1 : ((k : Int) % 8 == 1) = true := by simp; omega
  have HC := Lib.hid (mkdir_any (w.alloc (.cells #[.int .u8 (k : Int), .string p, .int .i64 x, .int .i64 n, .slice B m d] 32)) N b0 t L p (hM.keep hb0) hb hW hp (by omega))
  have HM := Lib.hid hM
  clear hb0 hk hM
  go_enter Tryz.func11, Tryz.ntmps11
  go_wp2_with fail
  refine HC.out.mono ?_
  rintro e w2 ⟨rfl, hr⟩
  have HR := Lib.hid (TrkN.after HB0.out (hr.to (N' := N + 1) (Nat.le_refl _)))
  clear hr
  generalize addT t p true = r at *
  go_wp2
  refine bodyPost_ret (v := .tuple #[.int .i64 r.2, .string ⟨#[]⟩, .slice none 0 0]) ?_ rfl ⟨none, 0, rfl, Pat.txs_nil _ _, HR.out⟩
  simp [results, Tryz.results11, go_sem]

set_option maxRecDepth 100000 in
set_option maxHeartbeats 4000000 in
theorem act_3 (w : World) (N b0 k : Nat) (t : List Th) (L : Nm → Nd) (p : ByteArray) (x n : Int) (m d : Nat) (B : Option Addr) (hM : Mem w N t L) (hb : (L []).b = b0) (hW : Wf t) (hp : p.size < 4294967281) (hk : k % 8 = 3) :
    Calls Tryz.prog 11 #[.pointer (some ⟨b0, 0, none⟩), .agg #[.int .u8 (k : Int), .string p, .int .i64 x, .int .i64 n, .slice B m d]] w (ActR w N t L ((truncT t p x).1, (truncT t p x).2, ⟨#[]⟩, [])) := by
  have hb0 := (Below.refl w.heap.size w).alloc (Nat.le_refl _) (.cells #[.int .u8 (k : Int), .string p, .int .i64 x, .int .i64 n, .slice B m d] 32)
  have HB0 := Lib.hid hb0
  have e0 : ((k : Int) % 8 == 0) = false := by simp; omega
  have e1 : ((k : Int) % 8 == 1) = false := by simp; omega
  have e2 : ((k : Int) % 8 == 2) = false := by simp; omega
  have e3 : ((k : Int) % 8 == 3) = true := by simp; omega
  have HC := Lib.hid (trunc_any (w.alloc (.cells #[.int .u8 (k : Int), .string p, .int .i64 x, .int .i64 n, .slice B m d] 32)) N b0 t L p x (hM.keep hb0) hb hW hp)
  have HM := Lib.hid hM
  clear hb0 hk hM
  go_enter Tryz.func11, Tryz.ntmps11
  go_wp2_with fail
  refine HC.out.mono ?_
  rintro e w2 ⟨rfl, hr⟩
  have HR := Lib.hid (TrkN.after HB0.out (hr.to (N' := N + 1) (Nat.le_refl _)))
  clear hr
  generalize truncT t p x = r at *
  go_wp2
  refine bodyPost_ret (v := .tuple #[.int .i64 r.2, .string ⟨#[]⟩, .slice none 0 0]) ?_ rfl ⟨none, 0, rfl, Pat.txs_nil _ _, HR.out⟩
  simp [results, Tryz.results11, go_sem]

set_option maxRecDepth 100000 in
set_option maxHeartbeats 4000000 in
theorem act_4 (w : World) (N b0 k : Nat) (t : List Th) (L : Nm → Nd) (p : ByteArray) (x n : Int) (m d : Nat) (B : Option Addr) (hM : Mem w N t L) (hb : (L []).b = b0) (hW : Wf t) (hp : p.size < 4294967281) (hk : k % 8 = 4) :
    Calls Tryz.prog 11 #[.pointer (some ⟨b0, 0, none⟩), .agg #[.int .u8 (k : Int), .string p, .int .i64 x, .int .i64 n, .slice B m d]] w (ActR w N t L ((unlinkT t p).1, (unlinkT t p).2, ⟨#[]⟩, [])) := by
  have hb0 := (Below.refl w.heap.size w).alloc (Nat.le_refl _) (.cells #[.int .u8 (k : Int), .string p, .int .i64 x, .int .i64 n, .slice B m d] 32)
  have HB0 := Lib.hid hb0
  have e0 : ((k : Int) % 8 == 0) = false := by simp; omega
  have e1 : ((k : Int) % 8 == 1) = false := by simp; omega
  have e2 : ((k : Int) % 8 == 2) = false := by simp; omega
  have e3 : ((k : Int) % 8 == 3) = false := by simp; omega
  have e4 : ((k : Int) % 8 == 4) = true := by simp; omega
  have HC := Lib.hid (unlink_any (w.alloc (.cells #[.int .u8 (k : Int), .string p, .int .i64 x, .int .i64 n, .slice B m d] 32)) N b0 t L p (hM.keep hb0) hb hW hp)
  have HM := Lib.hid hM
  clear hb0 hk hM
  go_enter Tryz.func11, Tryz.ntmps11
  go_wp2_with fail
  refine HC.out.mono ?_
  rintro e w2 ⟨rfl, hr⟩
  have HR := Lib.hid (TrkN.after HB0.out (hr.to (N' := N + 1) (Nat.le_refl _)))
  clear hr
  generalize unlinkT t p = r at *
  go_wp2
  refine bodyPost_ret (v := .tuple #[.int .i64 r.2, .string ⟨#[]⟩, .slice none 0 0]) ?_ rfl ⟨none, 0, rfl, Pat.txs_nil _ _, HR.out⟩
  simp [results, Tryz.results11, go_sem]

set_option maxRecDepth 100000 in
set_option maxHeartbeats 4000000 in
theorem act_5 (w : World) (N b0 k : Nat) (t : List Th) (L : Nm → Nd) (p : ByteArray) (x n : Int) (m d : Nat) (B : Option Addr) (hM : Mem w N t L) (hb : (L []).b = b0) (hW : Wf t) (hp : p.size < 4294967281) (hk : k % 8 = 5) :
    Calls Tryz.prog 11 #[.pointer (some ⟨b0, 0, none⟩), .agg #[.int .u8 (k : Int), .string p, .int .i64 x, .int .i64 n, .slice B m d]] w (ActR w N t L ((rmdirT t p).1, (rmdirT t p).2, ⟨#[]⟩, [])) := by
  have hb0 := (Below.refl w.heap.size w).alloc (Nat.le_refl _) (.cells #[.int .u8 (k : Int), .string p, .int .i64 x, .int .i64 n, .slice B m d] 32)
  have HB0 := Lib.hid hb0
  have e0 : ((k : Int) % 8 == 0) = false := by simp; omega
  have e1 : ((k : Int) % 8 == 1) = false := by simp; omega
  have e2 : ((k : Int) % 8 == 2) = false := by simp; omega
  have e3 : ((k : Int) % 8 == 3) = false := by simp; omega
  have e4 : ((k : Int) % 8 == 4) = false := by simp; omega
  have e5 : ((k : Int) % 8 == 5) = true := by simp; omega
  have HC := Lib.hid (rmdir_any (w.alloc (.cells #[.int .u8 (k : Int), .string p, .int .i64 x, .int .i64 n, .slice B m d] 32)) N b0 t L p (hM.keep hb0) hb hW hp)
  have HM := Lib.hid hM
  clear hb0 hk hM
  go_enter Tryz.func11, Tryz.ntmps11
  go_wp2_with fail
  refine HC.out.mono ?_
  rintro e w2 ⟨rfl, hr⟩
  have HR := Lib.hid (TrkN.after HB0.out (hr.to (N' := N + 1) (Nat.le_refl _)))
  clear hr
  generalize rmdirT t p = r at *
  go_wp2
  refine bodyPost_ret (v := .tuple #[.int .i64 r.2, .string ⟨#[]⟩, .slice none 0 0]) ?_ rfl ⟨none, 0, rfl, Pat.txs_nil _ _, HR.out⟩
  simp [results, Tryz.results11, go_sem]

theorem dat_small {t : List Th} (hW : Wf t) {p : ByteArray} (h : (Tre.fileT t p).2 = 0) : (Tre.datT t (Tre.fileT t p).1.toNat).size ≤ 268435456 := by
  obtain ⟨n, i, s, hf⟩ := file_yes h
  obtain ⟨h1, h2, _⟩ := fileT_file hf
  rw [h2]
  unfold Tre.datT
  cases hi : t[i]? with
  | none => simp
  | some x => exact hW.size x (List.mem_of_getElem? hi)
theorem read_small {t : List Th} (hW : Wf t) (p : ByteArray) (x n : Int) : (readT t p x n).1.size ≤ 268435456 := by
  unfold Tre.readT
  split
  · exact Nat.zero_le _
  · rename_i h
    split
    · exact Nat.zero_le _
    · have hs := dat_small hW (p := p) (by simpa using h)
      show (Tre.rdT _ x n).size ≤ _
      unfold Tre.rdT
      split
      · exact Nat.zero_le _
      · split <;> simp <;> omega
theorem list_small {t : List Th} (hW : Wf t) (p : ByteArray) : ∀ s ∈ (listT t p).1, s.size ≤ 1000 := by
  unfold Tre.listT
  split
  · intro s hs; simp at hs
  · rename_i n _
    split
    · intro s hs; simp at hs
    · split
      · intro s hs; simp at hs
      · intro s hs
        have h1 := (kidT_perm t n).mem_iff.1 hs
        unfold Tre.kidL at h1
        obtain ⟨y, hy, rfl⟩ := List.mem_map.1 h1
        obtain ⟨hy1, hy2⟩ := List.mem_filter.1 hy
        have hy2 := (of_decide_eq_true hy2).1
        have hn := (hW.nm y hy1).2.2 (y.1.getD n.length ByteArray.empty) (by
          rw [List.getD_eq_getElem?_getD, List.getElem?_eq_getElem (by omega)]
          exact List.getElem_mem _)
        have h3 := hn.1.2
        rw [Crc.tx_len] at h3
        omega
theorem list_len (t : List Th) (p : ByteArray) : (listT t p).1.length ≤ t.length := by
  unfold Tre.listT
  split
  · simp
  · split
    · simp
    · split
      · simp
      · rename_i n _ _ _
        show (Tre.kidT t n).length ≤ _
        rw [(kidT_perm t n).length_eq]
        unfold Tre.kidL
        rw [List.length_map]
        exact List.length_filter_le _ _

set_option maxRecDepth 100000 in
set_option maxHeartbeats 4000000 in
theorem act_2 (w : World) (N b0 k : Nat) (t : List Th) (L : Nm → Nd) (p : ByteArray) (x n : Int) (m d : Nat) (B : Option Addr) (hM : Mem w N t L) (hb : (L []).b = b0) (hW : Wf t) (hp : p.size < 4294967281) (bs : List Nat) (hm : bs.length = m) (hml : m ≤ 1000000) (hB : Crc.Bts w B bs) (hap : ∀ ad, B = some ad → bs ≠ [] → ¬ Fp t L ad.block) (hk : k % 8 = 2) :
    Calls Tryz.prog 11 #[.pointer (some ⟨b0, 0, none⟩), .agg #[.int .u8 (k : Int), .string p, .int .i64 x, .int .i64 n, .slice B m d]] w (ActR w N t L ((writeT t p x (Crc.str bs)).1, (writeT t p x (Crc.str bs)).2, ⟨#[]⟩, [])) := by
  have hb0 := (Below.refl w.heap.size w).alloc (Nat.le_refl _) (.cells #[.int .u8 (k : Int), .string p, .int .i64 x, .int .i64 n, .slice B m d] 32)
  have HB0 := Lib.hid hb0
  have e0 : ((k : Int) % 8 == 0) = false := by simp; omega
  have e1 : ((k : Int) % 8 == 1) = false := by simp; omega
  have e2 : ((k : Int) % 8 == 2) = true := by simp; omega
  have HC := Lib.hid (wr_any (w.alloc (.cells #[.int .u8 (k : Int), .string p, .int .i64 x, .int .i64 n, .slice B m d] 32)) N b0 t L p x m d B bs (hM.keep hb0) hb hW hp hm hml (hB.keep hb0) hap)
  have HM := Lib.hid hM
  clear hb0 hk hM
  go_enter Tryz.func11, Tryz.ntmps11
  go_wp2_with fail
  refine HC.out.mono ?_
  rintro e w2 ⟨rfl, hr⟩
  have HR := Lib.hid (TrkN.after HB0.out (hr.to (N' := N + 1) (Nat.le_refl _)))
  clear hr
  generalize writeT t p x (Crc.str bs) = r at *
  go_wp2
  refine bodyPost_ret (v := .tuple #[.int .i64 r.2, .string ⟨#[]⟩, .slice none 0 0]) ?_ rfl ⟨none, 0, rfl, Pat.txs_nil _ _, HR.out⟩
  simp [results, Tryz.results11, go_sem]

set_option maxRecDepth 100000 in
set_option maxHeartbeats 4000000 in
theorem act_6 (w : World) (N b0 k : Nat) (t : List Th) (L : Nm → Nd) (p : ByteArray) (x n : Int) (m d : Nat) (B : Option Addr) (hM : Mem w N t L) (hb : (L []).b = b0) (hW : Wf t) (hp : p.size < 4294967281) (hx : x ≤ 9223372036854775807) (hn : n ≤ 9223372036854775807) (hk : k % 8 = 6) :
    Calls Tryz.prog 11 #[.pointer (some ⟨b0, 0, none⟩), .agg #[.int .u8 (k : Int), .string p, .int .i64 x, .int .i64 n, .slice B m d]] w (ActR w N t L (t, (readT t p x n).2, (readT t p x n).1, [])) := by
  have hb0 := (Below.refl w.heap.size w).alloc (Nat.le_refl _) (.cells #[.int .u8 (k : Int), .string p, .int .i64 x, .int .i64 n, .slice B m d] 32)
  have HB0 := Lib.hid hb0
  have e0 : ((k : Int) % 8 == 0) = false := by simp; omega
  have e1 : ((k : Int) % 8 == 1) = false := by simp; omega
  have e2 : ((k : Int) % 8 == 2) = false := by simp; omega
  have e3 : ((k : Int) % 8 == 3) = false := by simp; omega
  have e4 : ((k : Int) % 8 == 4) = false := by simp; omega
  have e5 : ((k : Int) % 8 == 5) = false := by simp; omega
  have e6 : ((k : Int) % 8 == 6) = true := by simp; omega
  have HC := Lib.hid (rd_any (w.alloc (.cells #[.int .u8 (k : Int), .string p, .int .i64 x, .int .i64 n, .slice B m d] 32)) N b0 t L p x n (hM.keep hb0) hb hW hp hx hn)
  have HM := Lib.hid hM
  clear hb0 hk hM
  go_enter Tryz.func11, Tryz.ntmps11
  go_wp2_with fail
  refine HC.out.mono ?_
  rintro e w2 ⟨G, q, gc, rfl, hq, ho, hbz⟩
  have hdr : Below w2.heap.size w2 w2.drew := Tre.below_drew (Below.refl _ _)
  have hb3 := HB0.out.trans (hbz.mono HB0.out.size)
  have HR := Lib.hid (TrkN.same HM.out (hb3.trans (hdr.mono hb3.size)))
  have hsm := read_small hW p x n
  rw [Crc.tx_len] at hq
  have hcv := Crc.conv_str gc (Crc.own_bts ho (tx_byt _) (by omega))
  have hcvd := Crc.conv_str gc ((Crc.own_bts ho (tx_byt _) (by omega)).keep hdr)
  rw [Crc.tx_len, hq, Ent.str_tx] at hcv hcvd
  clear ho hbz hsm hq hdr hb3
  generalize readT t p x n = r at *
  obtain ⟨s, g⟩ := r
  simp only at hcv hcvd
  go_wp2_with fail
  go_region_held3 (fun W' => (convert 30 9 (.slice G q gc)).run Tryz.prog W' = .ok (.string s) W') (go_keep) (fail)
  go_wp2
  refine bodyPost_ret (v := .tuple #[.int .i64 g, .string s, .slice none 0 0]) ?_ rfl ⟨none, 0, rfl, Pat.txs_nil _ _, HR.out⟩
  simp [results, Tryz.results11, go_sem]

set_option maxRecDepth 100000 in
set_option maxHeartbeats 4000000 in
theorem act_7 (w : World) (N b0 k : Nat) (t : List Th) (L : Nm → Nd) (p : ByteArray) (x n : Int) (m d : Nat) (B : Option Addr) (hM : Mem w N t L) (hb : (L []).b = b0) (hW : Wf t) (hp : p.size < 4294967281) (hl : t.length ≤ 1000000) (hk : k % 8 = 7) :
    Calls Tryz.prog 11 #[.pointer (some ⟨b0, 0, none⟩), .agg #[.int .u8 (k : Int), .string p, .int .i64 x, .int .i64 n, .slice B m d]] w (ActR w N t L (t, (listT t p).2, ⟨#[]⟩, (listT t p).1)) := by
  have hb0 := (Below.refl w.heap.size w).alloc (Nat.le_refl _) (.cells #[.int .u8 (k : Int), .string p, .int .i64 x, .int .i64 n, .slice B m d] 32)
  have HB0 := Lib.hid hb0
  have e0 : ((k : Int) % 8 == 0) = false := by simp; omega
  have e1 : ((k : Int) % 8 == 1) = false := by simp; omega
  have e2 : ((k : Int) % 8 == 2) = false := by simp; omega
  have e3 : ((k : Int) % 8 == 3) = false := by simp; omega
  have e4 : ((k : Int) % 8 == 4) = false := by simp; omega
  have e5 : ((k : Int) % 8 == 5) = false := by simp; omega
  have e6 : ((k : Int) % 8 == 6) = false := by simp; omega
  have HC := Lib.hid (list_any (w.alloc (.cells #[.int .u8 (k : Int), .string p, .int .i64 x, .int .i64 n, .slice B m d] 32)) N b0 t L p (hM.keep hb0) hb hW hp hl)
  have HM := Lib.hid hM
  clear hb0 hk hM
  go_enter Tryz.func11, Tryz.ntmps11
  go_wp2_with fail
  refine HC.out.mono ?_
  rintro e w2 ⟨G, gc, rfl, ho, hbz⟩
  have HR := Lib.hid (TrkN.same HM.out (HB0.out.trans (hbz.mono HB0.out.size)))
  have HT := Lib.hid (Pat.own_txs ho (fun s hs => by have := list_small hW p s hs; omega) (by have := list_len t p; omega)).1
  clear ho hbz
  generalize listT t p = r at *
  obtain ⟨l, g⟩ := r
  simp only at HT
  generalize hll : l.length = q
  have HLL := Lib.hid hll
  clear hll
  go_wp2
  refine bodyPost_ret (v := .tuple #[.int .i64 g, .string ⟨#[]⟩, .slice G q gc]) ?_ rfl ⟨G, gc, by rw [HLL.out], HT.out, HR.out⟩
  simp [results, Tryz.results11, go_sem]

theorem act_any (w : World) (N b0 k : Nat) (t : List Th) (L : Nm → Nd) (p : ByteArray) (x n : Int) (m d : Nat) (B : Option Addr) (bs : List Nat) (hM : Mem w N t L) (hb : (L []).b = b0) (hW : Wf t) (hp : p.size < 4294967281) (hN : N ≤ 999999) (hm : bs.length = m) (hml : m ≤ 1000000) (hB : Crc.Bts w B bs) (hap : ∀ ad, B = some ad → bs ≠ [] → ¬ Fp t L ad.block) (hx : x ≤ 9223372036854775807) (hn : n ≤ 9223372036854775807) (hl : t.length ≤ 1000000) :
    Calls Tryz.prog 11 #[.pointer (some ⟨b0, 0, none⟩), .agg #[.int .u8 (k : Int), .string p, .int .i64 x, .int .i64 n, .slice B m d]] w (ActR w N t L (doT t k p x n (Crc.str bs))) := by
  unfold Tre.doT
  have hk : k % 8 < 8 := Nat.mod_lt _ (by omega)
  by_cases h0 : k % 8 = 0
  · rw [if_pos h0]; exact act_0 w N b0 k t L p x n m d B hM hb hW hp hN h0
  rw [if_neg h0]
  by_cases h1 : k % 8 = 1
  · rw [if_pos h1]; exact act_1 w N b0 k t L p x n m d B hM hb hW hp hN h1
  rw [if_neg h1]
  by_cases h2 : k % 8 = 2
  · rw [if_pos h2]; exact act_2 w N b0 k t L p x n m d B hM hb hW hp bs hm hml hB hap h2
  rw [if_neg h2]
  by_cases h3 : k % 8 = 3
  · rw [if_pos h3]; exact act_3 w N b0 k t L p x n m d B hM hb hW hp h3
  rw [if_neg h3]
  by_cases h4 : k % 8 = 4
  · rw [if_pos h4]; exact act_4 w N b0 k t L p x n m d B hM hb hW hp h4
  rw [if_neg h4]
  by_cases h5 : k % 8 = 5
  · rw [if_pos h5]; exact act_5 w N b0 k t L p x n m d B hM hb hW hp h5
  rw [if_neg h5]
  by_cases h6 : k % 8 = 6
  · rw [if_pos h6]; exact act_6 w N b0 k t L p x n m d B hM hb hW hp hx hn h6
  rw [if_neg h6]
  exact act_7 w N b0 k t L p x n m d B hM hb hW hp hl (by omega)
end Trk
end Go.Proofs.YtkhkcfbacnkcnaaGreatDoor
/- The program's Of. -/
namespace Go.Proofs.YtkhkcfbacnkcnaaGreatDoor
open Go.RowKit Go.MapKept
namespace Trk
open Tre (Nm Th It Its addT writeT fileT allT)

def stp (r : List Th × Int) (g : It) : List Th × Int := if r.2 ≠ 0 then r else addI r.1 g.p g.d g.b
/-- what items make, one by one, and what is wrong first -/
def ofS (its : List It) : List Th × Int := its.foldl stp ([], 0)
theorem ofS_take {its : List It} {j : Nat} (h : j < its.length) : ofS (its.take (j + 1)) = stp (ofS (its.take j)) its[j] := by
  unfold ofS
  rw [List.take_succ_eq_append_getElem h, List.foldl_append]
  rfl
theorem stp_stay : ∀ (its : List It) (r : List Th × Int), r.2 ≠ 0 → its.foldl stp r = r
  | [], _, _ => rfl
  | g :: its, r, h => by
    rw [List.foldl_cons]
    have : stp r g = r := if_pos h
    rw [this]
    exact stp_stay its r h
theorem ofS_stay {its : List It} {j : Nat} (h : (ofS (its.take j)).2 ≠ 0) : ofS its = ofS (its.take j) := by
  have e : ofS its = (its.drop j).foldl stp (ofS (its.take j)) := by
    unfold ofS
    rw [← List.foldl_append, List.take_append_drop]
  rw [e]
  exact stp_stay _ _ h
/-- items that may be handed in -/
structure Fit (its : List It) : Prop where
  len : its.length ≤ 1000
  ok : ∀ g ∈ its, g.p.size < 4294967281 ∧ g.b.length ≤ 1000000
theorem ofS_wf {its : List It} (hb : ∀ g ∈ its, Crc.Byt g.b) : ∀ j, Wf (ofS (its.take j)).1
  | 0 => by rw [List.take_zero]; exact wf_nil
  | j + 1 => by
    by_cases h : j < its.length
    · rw [ofS_take h]
      unfold stp
      split
      · exact ofS_wf hb j
      · exact (ofS_wf hb j).addI _ _ (hb _ (List.getElem_mem h))
    · rw [List.take_of_length_le (by omega), ← List.take_of_length_le (i := j) (l := its) (by omega)]
      exact ofS_wf hb j
end Trk
end Go.Proofs.YtkhkcfbacnkcnaaGreatDoor
/- Law 13's TreeOf. -/
namespace Go.Proofs.YtkhkcfbacnkcnaaGreatDoor
open Go.RowKit Go.MapKept
namespace Trk
open Tre (Nm Th It Its Tg Ths ths tv TrR Apart addT writeT fileT allT goT)

theorem add_len (t : List Th) (p : ByteArray) (d : Bool) : (addT t p d).1.length ≤ t.length + 1 := by
  unfold Tre.addT
  split <;> try (simp; done)
  split <;> try (simp; done)
  split <;> try (simp; done)
  split <;> try (simp; done)
  split <;> simp
theorem set_len (t : List Th) (i : Nat) (s : ByteArray) : (Tre.setT t i s).length = t.length := by
  have := congrArg List.length (setT_names t i s)
  simpa using this
theorem write_len (t : List Th) (p : ByteArray) (a : Int) (b : ByteArray) : (writeT t p a b).1.length = t.length := by
  unfold Tre.writeT
  split <;> try rfl
  split <;> try rfl
  split <;> try rfl
  exact set_len _ _ _
theorem addI_len (t : List Th) (p : ByteArray) (d : Bool) (bs : List Nat) : (addI t p d bs).1.length ≤ t.length + 1 := by
  unfold Trk.addI
  have h1 := add_len t p true
  have h2 := add_len t p false
  split
  · split
    · exact h1
    · split <;> exact h1
  · split
    · exact h2
    · rw [write_len]; exact h2
theorem ofS_len {its : List It} : ∀ j, (ofS (its.take j)).1.length ≤ j
  | 0 => by rw [List.take_zero]; exact Nat.le_refl _
  | j + 1 => by
    by_cases h : j < its.length
    · rw [ofS_take h]
      unfold stp
      have := ofS_len (its := its) j
      split
      · omega
      · have := addI_len (ofS (its.take j)).1 its[j].p its[j].d its[j].b
        omega
    · have := ofS_len (its := its) j
      rw [List.take_of_length_le (by omega), ← List.take_of_length_le (i := j) (l := its) (by omega)]
      omega
/-- what was made a file takes bytes -/
theorem add_file {t : List Th} (hW : Wf t) {p : ByteArray} (h : (addT t p false).2 = 0) : ∃ n i s, IsFile (addT t p false).1 p n i s := by
  cases hs : Pat.spl p with
  | none => rw [Tre.addT_none hs] at h; cases h
  | some n =>
    by_cases h0 : n = []
    · rw [h0] at hs
      rw [Tre.addT_root hs] at h; cases h
    · by_cases hg : goT t (n.take (n.length - 1)) = 0
      · obtain ⟨v, hv⟩ := goT_some hg
        have hd := dirT_T hv
        cases hv1 : v.1 with
        | false => rw [Tre.addT_file hs h0 hg (hd.trans hv1)] at h; cases h
        | true =>
          cases hf : Tre.fi t n with
          | some i => rw [Tre.addT_there hs h0 hg (hd.trans hv1) hf] at h; cases h
          | none =>
            have hw := hW.add p false
            rw [Tre.addT_yes hs h0 hg (hd.trans hv1) hf] at hw ⊢
            have hT : T (t ++ [(n, false, ByteArray.empty)]) n = some (false, ByteArray.empty) := by
              have := T_app (x := (n, false, ByteArray.empty)) h0 hf n
              rw [if_pos rfl] at this
              exact this
            obtain ⟨i, hi⟩ := is_file hs (hw.go hT) hT
            exact ⟨n, i, _, hi⟩
      · rw [Tre.addT_go hs h0 hg] at h; exact absurd h hg
theorem add_write {t : List Th} (hW : Wf t) {p : ByteArray} {b : ByteArray} (h : (addT t p false).2 = 0) (hb : b.size ≤ 1000) : (writeT (addT t p false).1 p 0 b).2 = 0 := by
  obtain ⟨n, i, s, hf⟩ := add_file hW h
  unfold Tre.writeT
  rw [if_neg (fun hh => hh (fileT_file hf).2.2), if_neg (by omega)]
  split <;> rfl

section
variable {P : Program} {ops : Array Oper} {Q : Exit → Act → World → Prop} {md : Region.Mode} {S : World → Prop}
/-- operation i of a region that draws is taken: it yields v into slot d -/
theorem op_yes (i d : Nat) (v : Value) {oi : Oper} {fuel : Nat} {listed : Array Bool} {a : Act} {w : World} (hi : ops[i]? = some oi) (hd : oi.dst = some d)
    (hs : Region.noSelect ops = true) (hf : Region.free md ops listed i = true) (hr : (Region.ready md ops listed).contains i = true)
    (hQ : ∀ c a w, Q (.panic c) (Act.put a (some d) v) w → Q (.panic c) a w) (hw : Region.wanted oi (yielded ops a.tmps) = true) (hy : ∀ w, S w → (execOp a.eval oi).run P w = .ok (.value v) w) (hS : S w)
    (h : wpAnyH P md ops Q S fuel (listed.setIfInBounds i true) (a.put (some d) v) w) : wpAnyH P md ops Q S (fuel + 1) listed a w :=
  wpAnyH_take hi hs hf hr (by rw [hd]; exact hQ) (Or.inl ⟨hw, hy⟩) hS (by rw [hd]; exact h)
/-- operation i of a region that draws is left out: its guard says so -/
theorem op_no (i d : Nat) {oi : Oper} {fuel : Nat} {listed : Array Bool} {a : Act} {w : World} (hi : ops[i]? = some oi) (hd : oi.dst = some d)
    (hs : Region.noSelect ops = true) (hf : Region.free md ops listed i = true) (hr : (Region.ready md ops listed).contains i = true)
    (hQ : ∀ c a w, Q (.panic c) (Act.put a (some d) undef) w → Q (.panic c) a w) (hw : Region.wanted oi (yielded ops a.tmps) = false) (hS : S w)
    (h : wpAnyH P md ops Q S fuel (listed.setIfInBounds i true) (a.put (some d) undef) w) : wpAnyH P md ops Q S (fuel + 1) listed a w :=
  wpAnyH_take hi hs hf hr (by rw [hd]; exact hQ) (Or.inr ⟨hw, rfl⟩) hS (by rw [hd]; exact h)
end

/-- the document's tree in its box -/
structure DS (w : World) (bw : Nat) (t : List Th) (A : Option Addr) (c : Nat) (l : List Tg) : Prop where
  row : Ths w A l
  eq : Tre.ths l = t
  nil : A = none → c = 0
  cap : l.length ≤ c
  apart : Apart bw A l
  lt : bw < w.heap.size
  cell : w.cell? ⟨bw, 0, none⟩ = some (.slice A l.length c)
  fr : w.frozen? ⟨bw, 0, none⟩ = false
theorem DS.keep {w w' : World} {bw : Nat} {t : List Th} {A : Option Addr} {c : Nat} {l : List Tg} (h : DS w bw t A c l) (hb : Below w.heap.size w w') : DS w' bw t A c l :=
  ⟨h.row.keep hb, h.eq, h.nil, h.cap, h.apart, Nat.lt_of_lt_of_le h.lt hb.size, (hb.cell (p := ⟨bw, 0, none⟩) h.lt).trans h.cell, (hb.frozen (p := ⟨bw, 0, none⟩) h.lt).trans h.fr⟩
theorem ds_new (w : World) (ty : TypeId) : DS (w.alloc (.cells #[.slice none 0 0] ty)) w.heap.size [] none 0 [] := by
  have r := World.rowIs_alloc w #[.slice none 0 0] ty (fun _ => .slice none 0 0) (fun j hj => by
    have : j < 1 := hj
    match j, this with
    | 0, _ => rfl)
  exact ⟨⟨by simp, fun g hg => by simp at hg, fun g hg => by simp at hg, fun j hj => by simp at hj⟩, rfl, fun _ => rfl, Nat.le_refl _, ⟨fun a e => (by cases e), fun g hg => (by simp at hg)⟩, by simp, r.cell (by simp), r.frozen 0⟩
/-- behind a call that answers a tree, stored in its box -/
theorem DS.put {w w2 : World} {bw : Nat} {t : List Th} {A : Option Addr} {c : Nat} {l : List Tg} {r : List Th × Int} {A' : Option Addr} {c' : Nat} {l' : List Tg} (h : DS w bw t A c l) (ht : Ths w2 A' l') (hl' : Tre.ths l' = r.1) (hA' : A' = none → c' = 0) (hc' : l'.length ≤ c') (hb : Below w.heap.size w w2) (hap : ∀ b, b < w.heap.size → Apart b A l → Apart b A' l') : DS (w2.setCell ⟨bw, 0, none⟩ (.slice A' l'.length c')) bw r.1 A' c' l' := by
  have ha := hap bw h.lt h.apart
  have hlt := Nat.lt_of_lt_of_le h.lt hb.size
  have hc := (hb.cell (p := ⟨bw, 0, none⟩) h.lt).trans h.cell
  refine ⟨Tre.ths_set ht ha 0 _, hl', hA', hc', ha, by simpa [World.setCell] using hlt, ?_, ?_⟩
  · exact World.cell?_setCell_same _ _ _ hc
  · exact (World.frozen?_setCell _ _ _ _).trans ((hb.frozen (p := ⟨bw, 0, none⟩) h.lt).trans h.fr)

end Trk
end Go.Proofs.YtkhkcfbacnkcnaaGreatDoor
/- What acts make of the document's tree: it stays well formed, and grows by one thing at most. -/
namespace Go.Proofs.YtkhkcfbacnkcnaaGreatDoor
open Go.RowKit Go.MapKept
namespace Trk
open Tre (Nm Th addT writeT truncT unlinkT rmdirT readT listT doT)

theorem Wf.doT {t : List Th} (hW : Wf t) (k : Nat) (p : ByteArray) (x n : Int) {bs : List Nat} (hb : Crc.Byt bs) : Wf (doT t k p x n (Crc.str bs)).1 := by
  unfold Tre.doT
  split
  · exact hW.add p false
  split
  · exact hW.add p true
  split
  · exact hW.write p x hb
  split
  · exact hW.trunc p x
  split
  · exact hW.unlink p
  split
  · exact hW.rmdir p
  split <;> exact hW
theorem drop_len (t : List Th) (i : Nat) : (Tre.dropT t i).length ≤ t.length := by
  first
    | (unfold Tre.dropT; simp; done)
    | (unfold Tre.dropT; simp; omega)
theorem doT_len (t : List Th) (k : Nat) (p : ByteArray) (x n : Int) (v : ByteArray) : (doT t k p x n v).1.length ≤ t.length + 1 := by
  unfold Tre.doT
  split
  · exact add_len t p false
  split
  · exact add_len t p true
  split
  · exact Nat.le_trans (Nat.le_of_eq (write_len t p x v)) (Nat.le_succ _)
  split
  · show (truncT t p x).1.length ≤ _
    unfold Tre.truncT
    split <;> try exact Nat.le_succ _
    split <;> try exact Nat.le_succ _
    exact Nat.le_trans (Nat.le_of_eq (set_len _ _ _)) (Nat.le_succ _)
  split
  · show (unlinkT t p).1.length ≤ _
    unfold Tre.unlinkT
    split <;> try exact Nat.le_succ _
    exact Nat.le_trans (drop_len _ _) (Nat.le_succ _)
  split
  · show (rmdirT t p).1.length ≤ _
    unfold Tre.rmdirT
    split <;> try exact Nat.le_succ _
    split <;> try exact Nat.le_succ _
    split <;> try exact Nat.le_succ _
    split <;> try exact Nat.le_succ _
    split <;> try exact Nat.le_succ _
    exact Nat.le_trans (drop_len _ _) (Nat.le_succ _)
  split <;> exact Nat.le_succ _
end Trk
end Go.Proofs.YtkhkcfbacnkcnaaGreatDoor
/- A copy of bytes of the call's own; a store of a byte in it. -/
namespace Go.Proofs.YtkhkcfbacnkcnaaGreatDoor
open Go.RowKit Go.MapKept
namespace Trk
theorem u8_parts : ∃ i0, Tryz.prog.info? 5 = some i0 ∧ i0.zero = some (.int .u8 0) ∧ i0.size = 1 ∧ i0.bytes = 1 := Pat.info_parts Crc.u8_info
theorem bts_news' {W : World} {ad : Addr} {l : List Nat} (h : Crc.Bts W (some ad) l) : ∀ j u, (Crc.u8s l)[j]? = some u → W.cell? (ad.add j) = some u := by
  intro j u hu
  have hj : j < l.length := by
    have := (List.getElem?_eq_some_iff.1 hu).1
    simpa [Crc.u8s] using this
  obtain ⟨b, o, e, _, hc⟩ := h.at' j hj
  injection e with e
  subst e
  rw [Go.WideShapes.add_plain, hc, ← hu]
  simp [Crc.u8s, List.getElem?_map, List.getElem?_eq_getElem hj]
/-- a copy of bytes: a row of the call's own -/
theorem copy_own {W : World} {A : Option Addr} {l : List Nat} (c : Nat) (h : Crc.Bts W A l) (hA : A = none → c = 0) (hl : l.length ≤ 1000000) :
    ∃ (G : Option Addr) (gc : Nat) (w' : World), (Builtin.append_ #[30, 30] 30 #[.slice (some ⟨W.heap.size, 0, none⟩) 0 0, .slice A l.length c]).run Tryz.prog (W.alloc (.cells #[] 5)) = .ok (.slice G l.length gc) w' ∧ w'.ownsRow W.heap.size 5 1 (.slice G l.length gc) l.length (Crc.u8s l) ∧ Below W.heap.size W w' := by
  obtain ⟨i0, hi0, hz0, hz1, hz2⟩ := u8_parts
  have hown : (W.alloc (.cells #[] 5)).ownsRow W.heap.size 5 1 (.slice (some ⟨W.heap.size, 0, none⟩) 0 0) 0 [] := World.ownsRow_made W #[] 0 (Nat.le_refl _) (by unfold maxLen; omega) rfl
  have hb := (Below.refl W.heap.size W).alloc (Nat.le_refl _) (.cells #[] 5)
  cases A with
  | none =>
    have hl0 : l = [] := by
      cases l with
      | nil => rfl
      | cons b l =>
        obtain ⟨_, _, e, _⟩ := h.at' 0 (by simp)
        cases e
    subst hl0
    rw [hA rfl]
    exact ⟨_, _, _, run_append_owned_none (P := Tryz.prog) _ W.heap.size 30 30 5 i0 1 Tryz.underlying30 hi0 _ 0 [] hown, hown, hb⟩
  | some ad =>
    obtain ⟨v', w', hr, h2, h3, _, _⟩ := run_append_own_at (P := Tryz.prog) (W.alloc (.cells #[] 5)) W.heap.size 30 30 5 i0 (.int .u8 0) 1 1 Tryz.underlying30 hi0 hz0 hz1 hz2 rfl (by decide) _ 0 [] hown ad l.length c (Crc.u8s l) (by simp [Crc.u8s]) (bts_news' (h.alloc _)) (Crc.u8s_one l) (by unfold maxLen; omega) (by omega) (by simp)
    rw [Nat.zero_add, List.nil_append] at h2
    obtain ⟨G, gc, rfl⟩ := Crc.row_slice h2
    exact ⟨G, gc, w', hr, h2, hb.grown h3 (by simp) (fun k hk => Crc.row_base_lt hown hk)⟩
end Trk
end Go.Proofs.YtkhkcfbacnkcnaaGreatDoor
/- What stays where only some blocks are changed: names, the document's tree; the state of a law that plays on both trees. -/
namespace Go.Proofs.YtkhkcfbacnkcnaaGreatDoor
open Go.RowKit Go.MapKept
namespace Trk
open Tre (Nm Th Tg Ths ths tv Apart)
open Pat (Txs)

theorem txs_chg {w w' : World} {F : Nat → Prop} {A : Option Addr} {l : List ByteArray} (h : Txs w A l) (hc : Chg F w w') (hA : ∀ a, A = some a → l ≠ [] → ¬ F a.block) : Txs w' A l :=
  ⟨h.size, h.len, fun j hj => by
    obtain ⟨g, o, e, hlt, hcl⟩ := h.at' j hj
    have hg := hA _ e (fun h0 => by rw [h0] at hj; simp at hj)
    exact ⟨g, o, e, Nat.lt_of_lt_of_le hlt hc.size, (World.cell?_of_block (w := w) (a := ⟨g, o + j, none⟩) (hc.block g hlt hg)).trans hcl⟩⟩
theorem ths_chg {w w' : World} {F : Nat → Prop} {A : Option Addr} {l : List Tg} (h : Ths w A l) (hc : Chg F w w') (ha : ∀ i, F i → Apart i A l) : Ths w' A l :=
  ⟨h.len, fun g hg => ⟨txs_chg (h.nm g hg).1 hc (fun a e h0 hf => (ha _ hf).2 g hg a e h0 rfl), (h.nm g hg).2⟩, h.sz, fun j hj => by
    obtain ⟨b, o, e, hlt, h0, h1, h2⟩ := h.at' j hj
    have hb := hc.block b hlt (fun hf => (ha _ hf).1 _ e (fun h0 => by rw [h0] at hj; simp at hj) rfl)
    exact ⟨b, o, e, Nat.lt_of_lt_of_le hlt hc.size, (World.cell?_of_block (w := w) (a := ⟨b, o + j * 3, none⟩) hb).trans h0, (World.cell?_of_block (w := w) (a := ⟨b, o + j * 3 + 1, none⟩) hb).trans h1, (World.cell?_of_block (w := w) (a := ⟨b, o + j * 3 + 2, none⟩) hb).trans h2⟩⟩
theorem DS.chg {w w' : World} {F : Nat → Prop} {bw : Nat} {t : List Th} {A : Option Addr} {c : Nat} {l : List Tg} (h : DS w bw t A c l) (hc : Chg F w w') (ha : ∀ i, F i → Apart i A l) (hb : ¬ F bw) : DS w' bw t A c l :=
  ⟨ths_chg h.row hc ha, h.eq, h.nil, h.cap, h.apart, Nat.lt_of_lt_of_le h.lt hc.size, (World.cell?_of_block (w := w) (a := ⟨bw, 0, none⟩) (hc.block bw h.lt hb)).trans h.cell, (World.frozen?_of_block (w := w) (a := ⟨bw, 0, none⟩) (hc.block bw h.lt hb)).trans h.fr⟩
theorem own_chg {w w' : World} {F : Nat → Prop} {B n s : Nat} {t : TypeId} {v : Value} {xs : List Value} (h : w.ownsRow B t s v n xs) (hc : Chg F w w') (hv : ∀ g, v.ownBlock = some g → ¬ F g) : w'.ownsRow B t s v n xs := by
  rcases h with ⟨h1, h2⟩
  refine ⟨h1, ?_⟩
  rcases h2 with h0 | ⟨g, cap, cur, rfl, hB, hh, hr⟩
  · exact .inl h0
  · exact .inr ⟨g, cap, cur, rfl, hB, (hc.block g (Array.getElem?_eq_some_iff.1 hh).1 (hv g rfl)).trans hh, hr⟩
/-- names stay where a cell that is no text is stored -/
theorem txs_off {w : World} {G : Option Addr} {n : List ByteArray} {b o : Nat} {v : Value} (h : Txs w G n) (hc : w.cell? ⟨b, o, none⟩ = some v) (hv : ∀ s, v ≠ .string s) (u : Value) : Txs (w.setCell ⟨b, o, none⟩ u) G n :=
  ⟨h.size, h.len, fun j hj => by
    obtain ⟨b', o', e, hlt, hx⟩ := h.at' j hj
    refine ⟨b', o', e, by simpa [World.setCell] using hlt, ?_⟩
    rw [World.cell?_setCell_other _ _ _ _ (fun e => by
      rw [← e] at hx
      exact hv _ (Option.some.inj (hc.symm.trans hx)))]
    exact hx⟩
theorem Mem.chg {w w' : World} {F : Nat → Prop} {N : Nat} {t : List Th} {L : Nm → Nd} (h : Mem w N t L) (hc : Chg F w w') (hF : ∀ i, Fp t L i → ¬ F i) : Mem w' N t L := h.block fun i hi => hc.block i (h.lt hi) (hF i hi)

/-- both trees: the program's, which lies at bt, and the document's, in its box bw; w0 is the world ahead of both -/
structure Both (w0 w : World) (N bt bw : Nat) (t : List Th) (L : Nm → Nd) (A : Option Addr) (c : Nat) (l : List Tg) : Prop where
  mem : Mem w N t L
  root : (L []).b = bt
  wf : Wf t
  ds : DS w bw t A c l
  fp : ∀ i, Fp t L i → w0.heap.size ≤ i ∧ Apart i A l ∧ i ≠ bw
  bw0 : w0.heap.size ≤ bw
  below : Below w0.heap.size w0 w
theorem Both.keep {w0 w w' : World} {N bt bw : Nat} {t : List Th} {L : Nm → Nd} {A : Option Addr} {c : Nat} {l : List Tg} (h : Both w0 w N bt bw t L A c l) (hb : Below w.heap.size w w') : Both w0 w' N bt bw t L A c l :=
  ⟨h.mem.keep hb, h.root, h.wf, h.ds.keep hb, h.fp, h.bw0, h.below.trans (hb.mono h.below.size)⟩
/-- where a block of neither is changed -/
theorem Both.off {w0 w w' : World} {N bt bw g : Nat} {t : List Th} {L : Nm → Nd} {A : Option Addr} {c : Nat} {l : List Tg} (h : Both w0 w N bt bw t L A c l) (hc : Chg (fun i => i = g) w w') (hg : ¬ Fp t L g) (ha : Apart g A l) (hb : g ≠ bw) (h0 : w0.heap.size ≤ g) : Both w0 w' N bt bw t L A c l :=
  ⟨h.mem.chg hc (fun _ hi e => hg (e ▸ hi)), h.root, h.wf, h.ds.chg hc (fun _ e => e ▸ ha) (fun e => hb e.symm), h.fp, h.bw0, h.below.trans (hc.below h.below.size (fun _ e => e ▸ h0))⟩
theorem both_len {w0 w : World} {N bt bw : Nat} {t : List Th} {L : Nm → Nd} {A : Option Addr} {c : Nat} {l : List Tg} (h : Both w0 w N bt bw t L A c l) : l.length = t.length := by
  have := congrArg List.length h.ds.eq
  simpa using this
/-- at the start -/
theorem both_new {w0 w2 w3 : World} (hb : Below w0.heap.size w0 w2) (hm : Mem w3 0 [] (L0 w2.heap.size)) (hb3 : Below w2.heap.size w2 w3) (hs : w3.heap.size = w2.heap.size + 1) (ty : TypeId) : Both w0 (w3.alloc (.cells #[.slice none 0 0] ty)) 0 w2.heap.size w3.heap.size [] (L0 w2.heap.size) none 0 [] := by
  have h0 := hb.size
  have hbb := hb.trans (hb3.mono h0)
  refine ⟨hm.keep ((Below.refl _ _).alloc (Nat.le_refl _) _), rfl, wf_nil, ds_new w3 ty, fun i hi => ?_, by omega, hbb.alloc (by omega) _⟩
  obtain ⟨p, v, _, hi⟩ := hi
  have hi : i = w2.heap.size := by simpa [own, L0] using hi
  subst hi
  exact ⟨h0, ⟨fun a e => (by cases e), fun g hg => (by simp at hg)⟩, by omega⟩

/-- an act in a box of its own -/
structure Abx (w : World) (b k : Nat) (p : ByteArray) (x n : Int) (A : Option Addr) (m c : Nat) : Prop where
  lt : b < w.heap.size
  c0 : w.cell? ⟨b, 0, none⟩ = some (.int .u8 (k : Int))
  c1 : w.cell? ⟨b, 1, none⟩ = some (.string p)
  c2 : w.cell? ⟨b, 2, none⟩ = some (.int .i64 x)
  c3 : w.cell? ⟨b, 3, none⟩ = some (.int .i64 n)
  c4 : w.cell? ⟨b, 4, none⟩ = some (.slice A m c)
  fr : w.frozen? ⟨b, 4, none⟩ = false
theorem Abx.chg {w w' : World} {F : Nat → Prop} {b k : Nat} {p : ByteArray} {x n : Int} {A : Option Addr} {m c : Nat} (h : Abx w b k p x n A m c) (hc : Chg F w w') (hb : ¬ F b) : Abx w' b k p x n A m c := by
  have hx := hc.block b h.lt hb
  exact ⟨Nat.lt_of_lt_of_le h.lt hc.size, (World.cell?_of_block (w := w) (a := ⟨b, 0, none⟩) hx).trans h.c0, (World.cell?_of_block (w := w) (a := ⟨b, 1, none⟩) hx).trans h.c1, (World.cell?_of_block (w := w) (a := ⟨b, 2, none⟩) hx).trans h.c2, (World.cell?_of_block (w := w) (a := ⟨b, 3, none⟩) hx).trans h.c3, (World.cell?_of_block (w := w) (a := ⟨b, 4, none⟩) hx).trans h.c4, (World.frozen?_of_block (w := w) (a := ⟨b, 4, none⟩) hx).trans h.fr⟩
theorem Abx.keep {w w' : World} {b k : Nat} {p : ByteArray} {x n : Int} {A : Option Addr} {m c : Nat} (h : Abx w b k p x n A m c) (hb : Below w.heap.size w w') : Abx w' b k p x n A m c := h.chg (Chg.of_below (F := fun _ => False) hb) (fun h => h)
theorem abx_new (w : World) (k : Nat) (p : ByteArray) (x n : Int) (A : Option Addr) (m c : Nat) (t : TypeId) : Abx (w.alloc (.cells #[.int .u8 (k : Int), .string p, .int .i64 x, .int .i64 n, .slice A m c] t)) w.heap.size k p x n A m c := by
  have r := World.rowIs_alloc w #[.int .u8 (k : Int), .string p, .int .i64 x, .int .i64 n, .slice A m c] t (fun j => (#[.int .u8 (k : Int), .string p, .int .i64 x, .int .i64 n, .slice A m c] : Array Value)[j]!) (fun j hj => by
    have : j < 5 := hj
    match j, this with
    | 0, _ => rfl
    | 1, _ => rfl
    | 2, _ => rfl
    | 3, _ => rfl
    | 4, _ => rfl)
  exact ⟨by simp, Crc.alloc_cell w _ t 0, Crc.alloc_cell w _ t 1, Crc.alloc_cell w _ t 2, Crc.alloc_cell w _ t 3, Crc.alloc_cell w _ t 4, r.frozen 4⟩
/-- its bytes are others from here on -/
theorem Abx.put {w : World} {b k : Nat} {p : ByteArray} {x n : Int} {A : Option Addr} {m c : Nat} (h : Abx w b k p x n A m c) (B : Option Addr) (m' c' : Nat) : Abx (w.setCell ⟨b, 4, none⟩ (.slice B m' c')) b k p x n B m' c' := by
  have o : ∀ j v, j ≠ 4 → w.cell? ⟨b, j, none⟩ = some v → (w.setCell ⟨b, 4, none⟩ (.slice B m' c')).cell? ⟨b, j, none⟩ = some v := fun j v hj hv => by
    rw [World.cell?_setCell_other _ _ _ _ (fun e => by injection e with _ e; omega)]
    exact hv
  exact ⟨by simpa [World.setCell] using h.lt, o 0 _ (by decide) h.c0, o 1 _ (by decide) h.c1, o 2 _ (by decide) h.c2, o 3 _ (by decide) h.c3, World.cell?_setCell_same _ _ _ h.c4, (World.frozen?_setCell _ _ _ _).trans h.fr⟩
theorem chg_set (w : World) (b o : Nat) (v : Value) : Chg (fun i => i = b) w (w.setCell ⟨b, o, none⟩ v) :=
  ⟨rfl, rfl, rfl, by simp, fun k _ hk => heap_setCell_other w ⟨b, o, none⟩ k v hk⟩
end Trk
end Go.Proofs.YtkhkcfbacnkcnaaGreatDoor
/- Both trees behind an act on the document's, and behind one on the program's; a byte more. -/
namespace Go.Proofs.YtkhkcfbacnkcnaaGreatDoor
open Go.RowKit Go.MapKept
namespace Trk
open Tre (Nm Th It Its Tg Ths ths tv TrR Apart Ac Acs FewA fewA doT DoR Fr)
open Pat (Txs)

/-- the block that an address is in -/
def Gb (G : Option Addr) (i : Nat) : Prop := ∃ a, G = some a ∧ i = a.block
/-- where other blocks than theirs are changed -/
theorem Both.offF {w0 w w' : World} {F : Nat → Prop} {N bt bw : Nat} {t : List Th} {L : Nm → Nd} {A : Option Addr} {c : Nat} {l : List Tg} (h : Both w0 w N bt bw t L A c l) (hc : Chg F w w') (hF : ∀ i, F i → ¬ Fp t L i ∧ Apart i A l ∧ i ≠ bw ∧ w0.heap.size ≤ i) : Both w0 w' N bt bw t L A c l :=
  ⟨h.mem.chg hc (fun i hi hf => (hF i hf).1 hi), h.root, h.wf, h.ds.chg hc (fun i hf => (hF i hf).2.1) (fun hf => (hF _ hf).2.2.1 rfl), h.fp, h.bw0, h.below.trans (hc.below h.below.size (fun i hf => (hF i hf).2.2.2))⟩
/-- the program's tree as it was, the document's behind an act -/
structure Mid (w0 w5 w : World) (N bt bw : Nat) (t : List Th) (L : Nm → Nd) (t' : List Th) (A : Option Addr) (c : Nat) (l : List Tg) : Prop where
  mem : Mem w N t L
  root : (L []).b = bt
  ds : DS w bw t' A c l
  fp : ∀ i, Fp t L i → i < w5.heap.size ∧ w0.heap.size ≤ i ∧ Apart i A l ∧ i ≠ bw
  bw0 : w0.heap.size ≤ bw
  below : Below w0.heap.size w0 w
  size : w5.heap.size ≤ w.heap.size
theorem Both.doc {w0 w5 w6 : World} {N bt bw : Nat} {t : List Th} {L : Nm → Nd} {A : Option Addr} {c : Nat} {l : List Tg} {r : List Th × Int} {A2 : Option Addr} {c2 : Nat} {l2 : List Tg} (h : Both w0 w5 N bt bw t L A c l) (ht : Ths w6 A2 l2) (hl : ths l2 = r.1) (hA : A2 = none → c2 = 0) (hc : l2.length ≤ c2) (hb : Below w5.heap.size w5 w6) (hap : ∀ b, b < w5.heap.size → Apart b A l → Apart b A2 l2) (O : Obj) :
    Mid w0 w5 ((w6.setCell ⟨bw, 0, none⟩ (.slice A2 l2.length c2)).alloc O) N bt bw t L r.1 A2 c2 l2 := by
  have hz := (Below.refl (w6.setCell ⟨bw, 0, none⟩ (.slice A2 l2.length c2)).heap.size (w6.setCell ⟨bw, 0, none⟩ (.slice A2 l2.length c2))).alloc (Nat.le_refl _) O
  have hbl := (h.below.trans (hb.mono h.below.size)).setCell (p := ⟨bw, 0, none⟩) h.bw0 (.slice A2 l2.length c2)
  refine ⟨((h.mem.keep hb).chg (chg_set w6 bw 0 _) (fun i hi e => (h.fp i hi).2.2 e)).keep hz, h.root, (h.ds.put ht hl hA hc hb hap).keep hz, fun i hi => ?_, h.bw0, hbl.trans (hz.mono hbl.size), ?_⟩
  · have h1 := h.mem.lt hi
    exact ⟨h1, (h.fp i hi).1, hap i h1 (h.fp i hi).2.1, (h.fp i hi).2.2⟩
  · have := hb.size
    simp [World.setCell]
    omega
theorem Mid.act {w0 w5 w7 w8 : World} {N N' bt bw : Nat} {t : List Th} {L : Nm → Nd} {t' : List Th} {A : Option Addr} {c : Nat} {l : List Tg} (h : Mid w0 w5 w7 N bt bw t L t' A c l) (hW : Wf t') (hr : TrkN w7 N' t L t' w8) : ∃ L', Both w0 w8 N' bt bw t' L' A c l ∧ ∀ i, Fp t' L' i → Fp t L i ∨ w7.heap.size ≤ i := by
  obtain ⟨hc, L', hm, hb, hf⟩ := hr
  refine ⟨L', ⟨hm, hb.trans h.root, hW, h.ds.chg hc (fun i hi => (h.fp i hi).2.2.1) (fun hi => (h.fp _ hi).2.2.2 rfl), fun i hi => ?_, h.bw0, h.below.trans (hc.below h.below.size (fun i hi => (h.fp i hi).2.1))⟩, hf⟩
  rcases hf i hi with h1 | h1
  · exact (h.fp i h1).2
  · refine ⟨Nat.le_trans h.below.size h1, h.ds.row.apart h1, fun e => ?_⟩
    have := h.ds.lt
    omega
theorem gb_row {w : World} {B n c : Nat} {t : TypeId} {G : Option Addr} {xs : List Value} (h : w.ownsRow B t 1 (.slice G n c) n xs) {i : Nat} (hi : Gb G i) : B ≤ i ∧ i < w.heap.size := by
  obtain ⟨a, rfl, rfl⟩ := hi
  rcases h.2 with ⟨e, hn⟩ | ⟨g, cap, cur, e, hB, hh, _⟩
  · cases e
  · injection e with e
    injection e with e
    subst e
    exact ⟨hB, (Array.getElem?_eq_some_iff.1 hh).1⟩
theorem u8_plus (x : Nat) (hx : x < 256) : ∃ y : Nat, y < 256 ∧ IntKind.u8.wrap ((x : Int) + 1) = (y : Int) := by
  by_cases h : x = 255
  · subst h
    exact ⟨0, by omega, rfl⟩
  · exact ⟨x + 1, by omega, by rw [IntKind.wrap_u8]; omega⟩
theorem u8s_set (l : List Nat) (i y : Nat) : (Crc.u8s l).set i (.int .u8 (y : Int)) = Crc.u8s (l.set i y) := by
  unfold Crc.u8s
  rw [List.map_set]
theorem byt_set {l : List Nat} (h : Crc.Byt l) (i : Nat) {y : Nat} (hy : y < 256) : Crc.Byt (l.set i y) := fun b hb => by
  rcases List.mem_or_eq_of_mem_set hb with h1 | h1
  · exact h b h1
  · rw [h1]; exact hy
end Trk
end Go.Proofs.YtkhkcfbacnkcnaaGreatDoor
