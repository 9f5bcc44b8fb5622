/- Texts laid together: TrkSta, TrkItems, TrkAll, CrcSums, TrkLives, TrkOf, TrkOfW, TrkOfLaw, CrcArgs, TrkArgs, PatCard. -/
import Derived.Test.YtafkccdbnfelkaaGreatDoorMgO6
import Derived.Test.YtafkccdbnfelkaaGreatDoorMgO2
import Derived.Deep.RegionHeld3
import Derived.Test.YtafkccdbnfelkaaGreatDoorMgO1
import Derived.Test.YtafkccdbnfelkaaGreatDoorMgO5
import Derived.Deep.Slices
import Derived.OpenShut
import Derived.ChangeOld
import Derived.Test.YtafkccdbnfelkaaGreatDoorTie
import Derived.Test.YtafkccdbnfelkaaGreatDoorCards
import Derived.ProofKit
import Derived.Lay
import Derived.LaidMore
import Derived.LaidOnce
import Derived.Stop.Joined
import Derived.ChangeMaps5
import Derived.Test.YtafkccdbnfelkaaGreatDoorMgO3
import Derived.Test.YtafkccdbnfelkaaGreatDoorMgO4
/- How what the program has found lies from one step to the next. -/
namespace Go.Proofs.YtafkccdbnfelkaaGreatDoor
open Go.RowKit Go.MapKept
namespace Trk
open Tre (Nm Th It Its eqI smT allT jnT kidL kidT)

/-- on the way -/
structure Sta (w : World) (N : Nat) (t : List Th) (L : Nm → Nd) (B : Nat) (v : Value) (its : List It) (u : Value) (p : Nm) : Prop where
  mem : Mem w N t L
  low : ∀ i, Fp t L i → i < B
  siz : B ≤ w.heap.size
  acc : Acc w B v its
  own : w.ownsRow B 9 1 u p.length (Pat.strs p)
  sep1 : ∀ k, u.ownBlock = some k → v.ownBlock ≠ some k
  sep2 : ∀ g ∈ its, ∀ a, g.a = some a → u.ownBlock ≠ some a.block
/-- what is left: so many items more -/
structure ItR (w : World) (N : Nat) (t : List Th) (L : Nm → Nd) (B : Nat) (v : Value) (its : List It) (u : Value) (p : Nm) (l : List Th) (v' : Value) (new : List It) (w' : World) : Prop where
  sta : Sta w' N t L B v' (its ++ new) u p
  tell : tells new = told l
  chg : Chg (fun i => v.ownBlock = some i ∨ u.ownBlock = some i) w w'
  blk : v'.ownBlock = v.ownBlock ∨ ∃ k, v'.ownBlock = some k ∧ w.heap.size ≤ k
  fresh : ∀ g ∈ new, ∀ a, g.a = some a → w.heap.size ≤ a.block
section
variable {w w' : World} {N : Nat} {t : List Th} {L : Nm → Nd} {B : Nat} {v : Value} {its : List It} {u : Value} {p : Nm}
theorem Acc.blk {g : It} (h : Acc w B v its) (hg : g ∈ its) {a : Addr} (ha : g.a = some a) : B ≤ a.block ∧ a.block < w.heap.size := by
  obtain ⟨_, _, h3, _, _⟩ := h.ok g hg
  exact row_blk h3 (k := a.block) (by rw [ha]; rfl)
theorem Sta.same (h : Sta w N t L B v its u p) (hs : w.heap.size ≤ w'.heap.size) (hb : ∀ k, k < w.heap.size → w'.heap[k]? = w.heap[k]?) : Sta w' N t L B v its u p :=
  ⟨h.mem.block fun i hi => hb i (h.mem.lt hi), h.low, Nat.le_trans h.siz hs, h.acc.same fun k hk _ => hb k hk, row_same h.own fun k hk => hb k (row_blk h.own hk).2, h.sep1, h.sep2⟩
theorem Sta.keep (h : Sta w N t L B v its u p) (hb : Below w.heap.size w w') : Sta w' N t L B v its u p := h.same hb.size hb.block
theorem Sta.drew (h : Sta w N t L B v its u p) : Sta w.drew N t L B v its u p := h.same (Nat.le_refl _) (fun _ _ => rfl)
/-- a name more -/
theorem Sta.down {x : ByteArray} (h : Sta w N t L B v its u p) (hn : p.length ≤ 1000) :
    ∃ u2 wb, (Builtin.append_ #[33, 33] 33 #[u, .slice (some ⟨w.heap.size, 0, none⟩) 1 1]).run Tryz.prog (w.alloc (.cells #[.string x] 9)) = .ok u2 wb ∧ Sta wb N t L B v its u2 (p ++ [x]) ∧ Chg (fun i => u.ownBlock = some i) w wb ∧
      ((∃ g cap, u = .slice (some ⟨g, 0, none⟩) p.length cap ∧ u2 = .slice (some ⟨g, 0, none⟩) (p.length + 1) cap) ∨ (Below w.heap.size w wb ∧ ∃ k, u2.ownBlock = some k ∧ w.heap.size ≤ k)) := by
  have ha := h.keep ((Below.refl _ w).alloc (Nat.le_refl _) (.cells #[.string x] 9))
  obtain ⟨u2, wb, hr, ho, hg, hcase⟩ := app_keep (c := 1) ha.own x (ad := ⟨w.heap.size, 0, none⟩) (by rw [Crc.alloc_cell]; rfl) hn ha.siz
  have hba : Below w.heap.size w (w.alloc (.cells #[.string x] 9)) := (Below.refl _ w).alloc (Nat.le_refl _) _
  have hub : ∀ k, u.ownBlock = some k → B ≤ k ∧ k < w.heap.size := fun k hk => row_blk h.own hk
  have hch : Chg (fun i => u.ownBlock = some i) w wb := Chg.after hba ⟨hg.os, hg.tape, hg.output, hg.size, fun k hk hne => hg.block k hk (fun e => hne e.symm)⟩
  have hk2 : ∀ k, u2.ownBlock = some k → u.ownBlock = some k ∨ w.heap.size ≤ k := fun k hk => by
    rcases hcase with ⟨g, cap, e1, e2⟩ | ⟨_, e2⟩
    · rw [e2] at hk
      rw [e1]
      exact .inl hk
    · rw [e2] at hk
      simp only [Option.some.injEq, World.size_alloc] at hk
      exact .inr (by omega)
  refine ⟨u2, wb, hr, ⟨?_, h.low, Nat.le_trans h.siz hch.size, ?_, ?_, ?_, ?_⟩, hch, ?_⟩
  · exact h.mem.block fun i hi => hch.block i (h.mem.lt hi) (fun e => by have := (hub i e).1; have := h.low i hi; omega)
  · refine h.acc.same fun k hk hc => hch.block k hk (fun e => ?_)
    rcases hc with hc | ⟨g, hg', a, ea, rfl⟩
    · exact h.sep1 k e hc
    · exact h.sep2 g hg' a ea e
  · rw [List.length_append, List.length_singleton]
    exact ho
  · intro k hk hv
    rcases hk2 k hk with h1 | h1
    · exact h.sep1 k h1 hv
    · have := (row_blk h.acc.row hv).2
      omega
  · intro g hg' a ea hu
    rcases hk2 _ hu with h1 | h1
    · exact h.sep2 g hg' a ea h1
    · have := (h.acc.blk hg' ea).2
      omega
  · rcases hcase with hc | ⟨hgn, e2⟩
    · exact .inl hc
    · refine .inr ⟨hba.trans ⟨hgn.os, hgn.tape, hgn.output, hgn.size, fun k hk => hgn.block k (by rw [World.size_alloc]; omega) (by simp)⟩, _, e2, by rw [World.size_alloc]; omega⟩
/-- an item more -/
theorem Sta.more {g : It} (h : Sta w N t L B v its u p) (hp : g.p.size ≤ 1000000) (hl : g.b.length ≤ 268435456) (hr : w.ownsRow B 5 1 (.slice g.a g.b.length g.c) g.b.length (Crc.u8s g.b)) (hb : Crc.Byt g.b) (hgv : ∀ a, g.a = some a → v.ownBlock ≠ some a.block ∧ u.ownBlock ≠ some a.block) (hn : its.length ≤ 1000000) :
    ∃ v2 w2, (Builtin.append_ #[41, 41] 41 #[v, .slice (some ⟨w.heap.size, 0, none⟩) 1 1]).run Tryz.prog (w.alloc (.cells #[.string g.p, .bool g.d, .slice g.a g.b.length g.c] 49)) = .ok v2 w2 ∧ Sta w2 N t L B v2 (its ++ [g]) u p ∧ Chg (fun i => v.ownBlock = some i) w w2 ∧ (v2.ownBlock = v.ownBlock ∨ ∃ k, v2.ownBlock = some k ∧ w.heap.size ≤ k) := by
  have hba : Below w.heap.size w (w.alloc (.cells #[.string g.p, .bool g.d, .slice g.a g.b.length g.c] 49)) := (Below.refl _ w).alloc (Nat.le_refl _) _
  have ha := h.keep hba
  obtain ⟨i0, hi0, hz0, hz1, hz2⟩ : ∃ i0, Tryz.prog.info? 49 = some i0 ∧ i0.zero = some (.agg #[.string ByteArray.empty, .bool false, .slice none 0 0]) ∧ i0.size = 3 ∧ i0.bytes = 48 := by
    have hinf : (Tryz.prog.info? 49).map (fun i => (i.zero, i.size, i.bytes)) = some (some (.agg #[.string ByteArray.empty, .bool false, .slice none 0 0]), 3, 48) := by kernel_rfl
    obtain ⟨i, hi, hzz⟩ := Option.map_eq_some_iff.1 hinf
    simp only [Prod.mk.injEq] at hzz
    exact ⟨i, hi, hzz.1, hzz.2.1, hzz.2.2⟩
  obtain ⟨v2, w2, hrun, ho, hg, _, hat⟩ := run_append_own_at (P := Tryz.prog) (w.alloc (.cells #[.string g.p, .bool g.d, .slice g.a g.b.length g.c] 49)) B 41 41 49 i0 _ 3 48 Tryz.underlying41 hi0 hz0 hz1 hz2 rfl (by decide) v its.length (icells its) ha.acc.row ⟨w.heap.size, 0, none⟩ 1 1 (ic g) rfl (fun j x hj => by
    match j, hj with
    | 0, hj => simp only [ic, List.getElem?_cons_zero, Option.some.injEq] at hj; subst hj; rw [Go.WideShapes.add_plain, Crc.alloc_cell]; rfl
    | 1, hj => simp only [ic, List.getElem?_cons_succ, List.getElem?_cons_zero, Option.some.injEq] at hj; subst hj; rw [Go.WideShapes.add_plain, Crc.alloc_cell]; rfl
    | 2, hj => simp only [ic, List.getElem?_cons_succ, List.getElem?_cons_zero, Option.some.injEq] at hj; subst hj; rw [Go.WideShapes.add_plain, Crc.alloc_cell]; rfl
    | j + 3, hj => simp [ic] at hj) (by simp [ic, Value.oneCell']) (by unfold maxLen; omega) (by omega) ha.siz
  have hch : Chg (fun i => v.ownBlock = some i) w w2 := Chg.after hba ⟨hg.os, hg.tape, hg.output, hg.size, fun k hk hne => hg.block k hk (fun e => hne e.symm)⟩
  have hv2 : v2.ownBlock = v.ownBlock ∨ ∃ k, v2.ownBlock = some k ∧ w.heap.size ≤ k := hat.imp id (fun e => ⟨_, e, by rw [World.size_alloc]; omega⟩)
  have hvb : ∀ k, v.ownBlock = some k → B ≤ k ∧ k < w.heap.size := fun k hk => row_blk h.acc.row hk
  have hold : ∀ g' ∈ its ++ [g], ∀ a, g'.a = some a → a.block < w.heap.size ∧ v.ownBlock ≠ some a.block ∧ u.ownBlock ≠ some a.block := fun g' hg' a ea => by
    rcases List.mem_append.1 hg' with hg' | hg'
    · obtain ⟨_, _, _, _, h5⟩ := h.acc.ok g' hg'
      exact ⟨(h.acc.blk hg' ea).2, h5 a ea, h.sep2 g' hg' a ea⟩
    · obtain rfl : g' = g := by simpa using hg'
      exact ⟨(row_blk hr (k := a.block) (by rw [ea]; rfl)).2, hgv a ea⟩
  refine ⟨v2, w2, hrun, ⟨?_, h.low, Nat.le_trans h.siz hch.size, ⟨?_, fun g' hg' => ?_⟩, ?_, ?_, fun g' hg' a ea => (hold g' hg' a ea).2.2⟩, hch, hv2⟩
  · exact h.mem.block fun i hi => hch.block i (h.mem.lt hi) (fun e => by have := (hvb i e).1; have := h.low i hi; omega)
  · rw [icells_app, List.length_append, List.length_singleton]
    simpa [icells] using ho
  · have hrow : ∀ g' : It, w.ownsRow B 5 1 (.slice g'.a g'.b.length g'.c) g'.b.length (Crc.u8s g'.b) → (∀ a, g'.a = some a → v.ownBlock ≠ some a.block) → w2.ownsRow B 5 1 (.slice g'.a g'.b.length g'.c) g'.b.length (Crc.u8s g'.b) := fun g' hr' hne => row_same hr' fun k hk => hch.block k (row_blk hr' hk).2 (fun e => by
      cases hA : g'.a with
      | none => rw [hA] at hk; cases hk
      | some a =>
        rw [hA] at hk
        simp only [Value.ownBlock, Option.some.injEq] at hk
        exact hne a hA (hk ▸ e))
    have hsep : ∀ a, g'.a = some a → v2.ownBlock ≠ some a.block := fun a ea e => by
      obtain ⟨q1, q2, _⟩ := hold g' hg' a ea
      rcases hv2 with h1 | ⟨k, h1, h2⟩
      · exact q2 (h1.symm.trans e)
      · rw [h1] at e
        injection e with e
        omega
    rcases List.mem_append.1 hg' with hg'' | hg''
    · obtain ⟨h1, h2, h3, h4, h5⟩ := h.acc.ok g' hg''
      exact ⟨h1, h2, hrow g' h3 h5, h4, hsep⟩
    · obtain rfl : g' = g := by simpa using hg''
      exact ⟨hp, hl, hrow g' hr (fun a ea => (hgv a ea).1), hb, hsep⟩
  · exact row_same h.own fun k hk => hch.block k (row_blk h.own hk).2 (fun e => h.sep1 k hk e)
  · intro k hk e
    rcases hv2 with h1 | ⟨k', h1, h2⟩
    · exact h.sep1 k hk (h1.symm.trans e)
    · rw [h1] at e
      injection e with e
      have := (row_blk h.own hk).2
      omega
end
section
variable {w w1 w2 : World} {N : Nat} {t : List Th} {L : Nm → Nd} {B : Nat} {v v1 v2 : Value} {its new1 new2 : List It} {u : Value} {p : Nm} {l1 l2 : List Th}
theorem ItR.refl (h : Sta w N t L B v its u p) : ItR w N t L B v its u p [] v [] w :=
  ⟨by rw [List.append_nil]; exact h, rfl, Chg.refl _ _, .inl rfl, fun g hg => by simp at hg⟩
theorem ItR.after (hb : Below w.heap.size w w1) (h : ItR w1 N t L B v its u p l1 v1 new1 w2) : ItR w N t L B v its u p l1 v1 new1 w2 :=
  ⟨h.sta, h.tell, Chg.after hb h.chg, h.blk.imp id (fun ⟨k, h1, h2⟩ => ⟨k, h1, Nat.le_trans hb.size h2⟩), fun g hg a ea => Nat.le_trans hb.size (h.fresh g hg a ea)⟩
theorem ItR.more (h : ItR w N t L B v its u p l1 v1 new1 w1) (k : ItR w1 N t L B v1 (its ++ new1) u p l2 v2 new2 w2) : ItR w N t L B v its u p (l1 ++ l2) v2 (new1 ++ new2) w2 := by
  refine ⟨by rw [← List.append_assoc]; exact k.sta, ?_, h.chg.trans k.chg (fun i hi => ?_), ?_, fun g hg a ea => ?_⟩
  · have h1 := h.tell
    have h2 := k.tell
    unfold tells told at *
    rw [List.map_append, List.map_append, h1, h2]
  · rcases hi with hi | hi
    · rcases h.blk with e | ⟨q, e, hq⟩
      · exact .inl (.inl (e.symm.trans hi))
      · rw [e] at hi
        injection hi with hi
        exact .inr (by omega)
    · exact .inl (.inr hi)
  · rcases k.blk with e | ⟨q, e, hq⟩
    · rw [e]
      exact h.blk
    · exact .inr ⟨q, e, Nat.le_trans h.chg.size hq⟩
  · rcases List.mem_append.1 hg with hg | hg
    · exact h.fresh g hg a ea
    · exact Nat.le_trans h.chg.size (k.fresh g hg a ea)
/-- a directory's or a file's item, and what is in it -/
theorem ItR.up {wb wc we w9 : World} {u2 v3 v9 : Value} {x : ByteArray} {g : It} {y : Th} {new : List It} {l : List Th} (h : Sta w N t L B v its u p) (hc1 : Chg (fun i => u.ownBlock = some i) w wb)
    (hcase : (∃ g cap, u = .slice (some ⟨g, 0, none⟩) p.length cap ∧ u2 = .slice (some ⟨g, 0, none⟩) (p.length + 1) cap) ∨ (Below w.heap.size w wb ∧ ∃ k, u2.ownBlock = some k ∧ w.heap.size ≤ k)) (hb : Below wb.heap.size wb wc)
    (hc2 : Chg (fun i => v.ownBlock = some i) wc we) (hv3 : v3.ownBlock = v.ownBlock ∨ ∃ k, v3.ownBlock = some k ∧ wc.heap.size ≤ k) (hg : ∀ a, g.a = some a → wb.heap.size ≤ a.block)
    (hI : ItR we N t L B v3 (its ++ [g]) u2 (p ++ [x]) l v9 new w9) (ht : (g.p, g.d, g.b) = (jnT y.1, y.2.1, Crc.tx y.2.2)) : ItR w N t L B v its u p (y :: l) v9 (g :: new) w9 := by
  have hub : ∀ k, u.ownBlock = some k → B ≤ k ∧ k < w.heap.size := fun k hk => row_blk h.own hk
  have hvb : ∀ k, v.ownBlock = some k → B ≤ k ∧ k < w.heap.size := fun k hk => row_blk h.acc.row hk
  have hu2 : ∀ k, u2.ownBlock = some k → u.ownBlock = some k ∨ w.heap.size ≤ k := fun k hk => by
    rcases hcase with ⟨g, cap, e1, e2⟩ | ⟨_, k', e2, hk'⟩
    · rw [e2] at hk
      rw [e1]
      exact .inl hk
    · rw [e2] at hk
      injection hk with hk
      exact .inr (by omega)
  have hs1 := hc1.size
  have hs2 := hb.size
  have hs3 := hc2.size
  have hv3' : ∀ k, v3.ownBlock = some k → v.ownBlock = some k ∨ w.heap.size ≤ k := fun k hk => by
    rcases hv3 with e | ⟨k', e, hk'⟩
    · exact .inl (e.symm.trans hk)
    · rw [e] at hk
      injection hk with hk
      exact .inr (by omega)
  have hall : Chg (fun i => v.ownBlock = some i ∨ u.ownBlock = some i) w we :=
    (((show Chg (fun i => v.ownBlock = some i ∨ u.ownBlock = some i) w wb from ⟨hc1.os, hc1.tape, hc1.output, hc1.size, fun k hk hne => hc1.block k hk (fun e => hne (.inr e))⟩).trans (Chg.of_below (F := fun _ => False) hb) (fun _ h => h.elim)).trans hc2 (fun i hi => .inl (.inl hi)))
  have hch : Chg (fun i => v.ownBlock = some i ∨ u.ownBlock = some i) w w9 := hall.trans hI.chg (fun i hi => by
    rcases hi with hi | hi
    · exact (hv3' i hi).imp .inl id
    · exact (hu2 i hi).imp .inr id)
  have hv9 : v9.ownBlock = v.ownBlock ∨ ∃ k, v9.ownBlock = some k ∧ w.heap.size ≤ k := by
    rcases hI.blk with e | ⟨k, e, hk⟩
    · rcases hv3 with e' | ⟨k, e', hk⟩
      · exact .inl (e.trans e')
      · exact .inr ⟨k, e.trans e', by omega⟩
    · exact .inr ⟨k, e, by omega⟩
  have hfr : ∀ g' ∈ g :: new, ∀ a, g'.a = some a → w.heap.size ≤ a.block := fun g' hg' a ea => by
    rcases List.mem_cons.1 hg' with rfl | hg'
    · have := hg a ea
      omega
    · have := hI.fresh g' hg' a ea
      omega
  have hsta := hI.sta
  rw [List.append_assoc] at hsta
  refine ⟨⟨hsta.mem, h.low, hsta.siz, hsta.acc, ?_, ?_, ?_⟩, ?_, hch, hv9, hfr⟩
  · rcases hcase with hc | ⟨hbw, k', e2, hk'⟩
    · have ho := hsta.own
      rw [List.length_append, List.length_singleton] at ho
      exact app_back ho rfl hc
    · refine row_same h.own fun k hk => ?_
      have hkl := (hub k hk).2
      have e1 : wb.heap[k]? = w.heap[k]? := hbw.block k hkl
      have e2' : wc.heap[k]? = wb.heap[k]? := hb.block k (by omega)
      have e3 : we.heap[k]? = wc.heap[k]? := hc2.block k (by omega) (fun e => h.sep1 k hk e)
      have e4 : w9.heap[k]? = we.heap[k]? := hI.chg.block k (by omega) (fun e => by
        rcases e with e | e
        · rcases hv3' k e with e' | e'
          · exact h.sep1 k hk e'
          · omega
        · rw [e2] at e
          injection e with e
          omega)
      rw [e4, e3, e2', e1]
  · intro k hk e
    rcases hcase with ⟨q, cap, e1, e2⟩ | _
    · exact hsta.sep1 k (by rw [e2]; rw [e1] at hk; exact hk) e
    · rcases hv9 with e' | ⟨k', e', hk'⟩
      · exact h.sep1 k hk (e'.symm.trans e)
      · rw [e'] at e
        injection e with e
        have := (hub k hk).2
        omega
  · intro g' hg' a ea e
    rcases List.mem_append.1 hg' with hg' | hg'
    · exact h.sep2 g' hg' a ea e
    · have h1 := hfr g' (by simpa using hg') a ea
      have h2 := (hub _ e).2
      omega
  · have := hI.tell
    unfold tells told at *
    rw [List.map_cons, List.map_cons, this, ht]
end
end Trk
end Go.Proofs.YtafkccdbnfelkaaGreatDoor
/- The program's items: all that is in a directory, in order. -/
namespace Go.Proofs.YtafkccdbnfelkaaGreatDoor
open Go.RowKit Go.MapKept
namespace Trk
open Tre (Nm Th It Its eqI smT allT jnT kidL kidT)
open Pat (Txs)

/-- what a name brings -/
def FF (t : List Th) (k : Nat) (p : Nm) (x : ByteArray) : List Th := th t (p ++ [x]) :: sb k t (p ++ [x])
theorem sb_FF (k : Nat) (t : List Th) (p : Nm) : sb (k + 1) t p = (kidT t p).flatMap (FF t k p) := rfl
theorem FF_next (t : List Th) (k : Nat) (p : Nm) {j : Nat} (h : j < (kidT t p).length) : ((kidT t p).take (j + 1)).flatMap (FF t k p) = ((kidT t p).take j).flatMap (FF t k p) ++ FF t k p (kidT t p)[j] := by
  rw [List.take_succ_eq_append_getElem h, List.flatMap_append]
  simp
theorem part_len (t : List Th) (k : Nat) (p : Nm) (j : Nat) : (((kidT t p).take j).flatMap (FF t k p)).length ≤ (sb (k + 1) t p).length := by
  rw [sb_FF]
  conv => rhs; rw [← List.take_append_drop j (kidT t p), List.flatMap_append, List.length_append]
  omega
theorem tail_len : ∀ (ls : List (List UInt8)), (∀ x ∈ ls, x.length ≤ 48) → (Lib.joinTail [47] ls).length ≤ 49 * ls.length
  | [], _ => by simp [Lib.joinTail]
  | x :: ls, h => by
    have h1 := h x (by simp)
    have h2 := tail_len ls (fun y hy => h y (by simp [hy]))
    rw [Pat.joinTail_cons, List.length_cons, List.length_append, List.length_cons]
    omega
theorem jn_size {q : Nm} (h : Pat.IsNames q) : (jnT q).size ≤ 1000000 := by
  unfold Tre.jnT
  rw [if_pos h]
  unfold Pat.pth
  split
  · decide
  · have h1 := tail_len (q.map (·.data.toList)) (fun x hx => by
      obtain ⟨y, hy, rfl⟩ := List.mem_map.1 hx
      have := (h.2 y hy).1.2
      rw [Crc.tx_len] at this
      simpa using this)
    rw [List.length_map] at h1
    have h2 := h.1
    show (Lib.joinTail [47] (q.map (·.data.toList))).toArray.size ≤ 1000000
    rw [List.size_toArray]
    omega
theorem row_slice3 {W : World} {B n : Nat} {e : TypeId} {v : Value} {xs : List Value} (h : W.ownsRow B e 3 v n xs) : ∃ A c, v = .slice A n c := by
  rcases h.2 with ⟨rfl, rfl⟩ | ⟨g, cap, cur, rfl, _⟩
  · exact ⟨none, 0, rfl⟩
  · exact ⟨_, _, rfl⟩
theorem step_append_run3 {P : Program} {w w' : World} {ops : Array Oper} {o : Oper} {a : Act} {K : Act → World → Prop} {Q : Exit → Act → World → Prop} {E : Prop} (hgd : o.guard = none) (s x : Operand) (t : TypeId)
    (ho : o.op = .call { callee := .builtin .append, args := #[s, x], argTypes := #[t, t] }) (v u v' : Value) (hs : a.eval s = v) (hx : a.eval x = u) (hr : (Builtin.append_ #[t, t] o.type #[v, u]).run P w = .ok v' w')
    (h : K (a.put o.dst v') w') : if Region.wanted o (yielded ops a.tmps) = true then Oper.wp P o a w K Q else E := Tre.step_append_run hgd s x t ho v u v' hs hx hr h
theorem tells_len {its : List It} {l : List Th} (h : tells its = told l) : its.length = l.length := by
  have := congrArg List.length h
  simpa [tells, told] using this
set_option maxRecDepth 100000 in
set_option maxHeartbeats 1000000 in
theorem items_step (w : World) (N k : Nat) (t : List Th) (L : Nm → Nd) (B n vc m uc : Nat) (VA UA : Option Addr) (its : List It) (p : Nm) (v0 : Bool × ByteArray) (hW : Wf t) (hl : t.length ≤ 100000) (hn : its.length = n) (hm : p.length = m) (hv : T t p = some v0)
    (h : Sta w N t L B (.slice VA n vc) its (.slice UA m uc) p) (hc : its.length + (sb (k + 1) t p).length ≤ 1000000)
    (rec : ∀ x ∈ kidT t p, ∀ (W : World) (n vc uc : Nat) (VA UA : Option Addr) (its : List It), its.length = n → Sta W N t L B (.slice VA n vc) its (.slice UA (m + 1) uc) (p ++ [x]) → its.length + (sb k t (p ++ [x])).length ≤ 1000000 →
      Calls Tryz.prog 39 #[.pointer (some ⟨(L (p ++ [x])).b, 0, none⟩), .slice VA n vc, .slice UA (m + 1) uc] W fun e w' => ∃ v' new, e = .returned v' ∧ ItR W N t L B (.slice VA n vc) its (.slice UA (m + 1) uc) (p ++ [x]) (sb k t (p ++ [x])) v' new w') :
    Calls Tryz.prog 39 #[.pointer (some ⟨(L p).b, 0, none⟩), .slice VA n vc, .slice UA m uc] w fun e w' => ∃ v' new, e = .returned v' ∧ ItR w N t L B (.slice VA n vc) its (.slice UA m uc) p (sb (k + 1) t p) v' new w' := by
  have H := Lib.hid h
  have HN := Lib.hid hn
  have HMM := Lib.hid hm
  have HREC := Lib.hid rec
  have HC := Lib.hid hc
  have HV := Lib.hid hv
  have HL := Lib.hid (tlist_any w N t L p (L p) v0.1 v0.2 (h.mem.nod _ _ _ hv) hW (by omega))
  clear h hn hm rec hc hv
  go_enter Tryz.func39, Tryz.ntmps39
  go_wp2_with fail
  refine HL.out.mono ?_
  rintro e w1 ⟨A, c, rfl, ho, hb1⟩
  have HB1 := Lib.hid hb1
  have HS1 := Lib.hid (H.out.keep hb1)
  have hAb : ∀ a, A = some a → w.heap.size ≤ a.block ∧ a.block < w1.heap.size := fun a ea => row_blk ho (k := a.block) (by rw [ea]; rfl)
  have hT1 := (Pat.own_txs ho (fun s hs => by
    have hx := (kidT_perm t p).mem_iff.1 hs
    have := kid_size hW ((kidL_mem hW.once).1 hx)
    unfold maxLen at this
    omega) (by
    have h1 := (kidT_perm t p).length_eq
    have h2 : (kidL t p).length ≤ t.length := by unfold Tre.kidL; rw [List.length_map]; exact List.length_filter_le _ _
    omega)).1
  have HA := Lib.hid hAb
  have HT1 := Lib.hid hT1
  have HU := Lib.hid (fun q (hq : (Value.slice UA m uc).ownBlock = some q) => (row_blk H.out.own hq).2)
  have HVV := Lib.hid (fun q (hq : (Value.slice VA n vc).ownBlock = some q) => (row_blk H.out.acc.row hq).2)
  obtain ⟨K, hK⟩ : ∃ K, K = (kidT t p).length := ⟨_, rfl⟩
  have HK := Lib.hid hK
  rw [← hK]
  have hKl : K ≤ 100000 := by
    have h1 := (kidT_perm t p).length_eq
    have h2 : (kidL t p).length ≤ t.length := by unfold Tre.kidL; rw [List.length_map]; exact List.length_filter_le _ _
    omega
  clear ho hb1 hAb hT1 hK HL
  go_wp2_with fail
  go_loopw [1, 16] (fun vv ix wr => ∃ (j nn cc : Nat) (AA : Option Addr) (new : List It), j ≤ K ∧ vv = .slice AA nn cc ∧ ix = .int .i64 (j : Int) ∧ (its ++ new).length = nn ∧ ItR w1 N t L B (.slice VA n vc) its (.slice UA m uc) p (((kidT t p).take j).flatMap (FF t k p)) (.slice AA nn cc) new wr) (fun _ ix _ => K - (intOf ix).toNat)
  case atStart => exact ⟨0, n, vc, VA, [], Nat.zero_le _, rfl, rfl, by rw [List.append_nil]; exact HN.out, ItR.refl HS1.out⟩
  case round =>
    obtain ⟨j, nn, cc, AA, new, hj, rfl, rfl, hnn, hI⟩ := hrel
    have HI := Lib.hid hI
    have HNN := Lib.hid hnn
    clear hI hnn
    by_cases hlt : j < K
    · have hltk : j < (kidT t p).length := by rw [← HK.out]; exact hlt
      have hTr : Txs wr A (kidT t p) := by
        refine ⟨HT1.out.size, HT1.out.len, fun i hi => ?_⟩
        obtain ⟨b, o, e, hb, hc⟩ := HT1.out.at' i hi
        obtain ⟨q1, q2⟩ := HA.out _ e
        refine ⟨b, o, e, Nat.lt_of_lt_of_le hb HI.out.chg.size, (World.cell?_of_block (w := w1) (a := ⟨b, o + i, none⟩) (HI.out.chg.block b hb (fun e => ?_))).trans hc⟩
        rcases e with e | e
        · have := HVV.out _ e
          simp only at q1
          omega
        · have := HU.out _ e
          simp only at q1
          omega
      obtain ⟨b, o, rfl, _, hc0⟩ := hTr.at' j hltk
      have hxm : (kidT t p)[j] ∈ kidT t p := List.getElem_mem hltk
      have HNX := Lib.hid (FF_next t k p hltk)
      have HPL := Lib.hid (part_len t k p (j + 1))
      generalize (kidT t p)[j] = x at *
      have hxk := (kidT_perm t p).mem_iff.1 hxm
      have hxs := kid_size hW ((kidL_mem hW.once).1 hxk)
      obtain ⟨⟨d, s⟩, hv1⟩ := Option.isSome_iff_exists.1 ((kidL_mem hW.once).1 hxk)
      have hIN := (hW.nm _ (T_mem (by simp) hv1)).2
      have hsta := HI.out.sta
      have hND := hsta.mem.nod _ _ _ HV.out
      have h2 := hND.c2
      have hlk := hND.look x hxs
      unfold kb at hlk
      rw [hv1] at hlk
      simp only [Option.map_some, pv] at hlk
      have hpl : p.length ≤ 1000 := by have := hIN.1; simp at this; omega
      obtain ⟨u2, wb, hap, hst2, hch, hcase⟩ := hsta.down (x := x) hpl
      have ho2 := hst2.own
      rw [List.length_append, List.length_singleton, HMM.out] at ho2
      obtain ⟨UA2, uc2, rfl⟩ := row_slice1 ho2
      have hjn : Pat.jn (p ++ [x]) = .tuple #[.string (jnT (p ++ [x])), .int .i64 0] := by
        unfold Pat.jn Tre.jnT
        rw [if_pos hIN, if_pos hIN]
      have hlq : (p ++ [x]).length = m + 1 := by simp [HMM.out]
      have htx2 := (Pat.own_txs ho2 (fun s hs => by have := (hIN.2 s hs).1.2; rw [Crc.tx_len] at this; omega) (by have := HMM.out; omega)).1
      have huc2 : m + 1 ≤ uc2 := by
        rcases ho2.2 with ⟨e, h0⟩ | ⟨g, cap, cur, e, _, _, h1, _⟩
        · omega
        · simp only [Value.slice.injEq] at e
          omega
      have hJ0 := Pat.join_any wb UA2 uc2 (p ++ [x]) htx2 (by rw [hlq]; exact huc2)
      rw [hjn, hlq] at hJ0
      have HJ := Lib.hid hJ0
      have HAPU := Lib.hid hap
      have HST2 := Lib.hid hst2
      have HCH := Lib.hid hch
      have HCASE := Lib.hid hcase
      have HSTA := Lib.hid hsta
      have HXM := Lib.hid hxm
      have HV1 := Lib.hid hv1
      have HIN := Lib.hid hIN
      have HLQ := Lib.hid hlq
      clear hTr hxm hxk hv1 hIN hsta hND hap hst2 hch hcase ho2 hjn hlq htx2 huc2 hJ0 hltk
      generalize hy : L (p ++ [x]) = y at *
      have HY := Lib.hid hy
      generalize hz : L p = z at *
      clear hy hz
      go_wp2_with (at_builtin; refine Pat.wpList_append_run rfl (.tmp 26) (.tmp 28) 33 rfl _ _ _ rfl rfl HAPU.out ?_)
      refine HJ.out.mono ?_
      rintro e wc ⟨rfl, hbc⟩
      have HBC := Lib.hid hbc
      have HSTC := Lib.hid (HST2.out.keep hbc)
      have hNY := HSTC.out.mem.nod _ _ _ HV1.out
      rw [HY.out] at hNY
      have hy0 := hNY.c0
      have hy1 := hNY.c1
      have HNY := Lib.hid hNY
      have HSS := Lib.hid (hW.fsize HV1.out)
      have HJS := Lib.hid (jn_size HIN.out)
      have hyl := hNY.blt
      have hnl1 : (its ++ new).length ≤ 1000000 := by
        have h1 := tells_len HI.out.tell
        have h2 := part_len t k p j
        have h3 := HC.out
        rw [List.length_append]
        omega
      have HSTEP := Lib.hid (show ∀ (W' : World) (G : Option Addr) (gc : Nat), W'.ownsRow wc.heap.size 5 1 (.slice G s.size gc) s.size (Crc.u8s (Crc.tx s)) → Below wc.heap.size wc.drew W' →
          (y.b < W'.heap.size ∧ W'.cell? ⟨y.b, 0, none⟩ = some (.bool (!d)) ∧ W'.cell? ⟨y.b, 1, none⟩ = some (.slice y.A s.size y.c)) ∧
          ∃ (A3 : Option Addr) (c3 : Nat) (we : World), (Builtin.append_ #[41, 41] 41 #[.slice AA nn cc, .slice (some ⟨W'.heap.size, 0, none⟩) 1 1]).run Tryz.prog (W'.alloc (.cells #[.string (jnT (p ++ [x])), .bool (d), .slice G s.size gc] 49)) = .ok (.slice A3 (nn + 1) c3) we ∧
            we.cell? ⟨y.b, 0, none⟩ = some (.bool (!d)) ∧ we.cell? ⟨y.b, 1, none⟩ = some (.slice y.A s.size y.c) ∧
            Sta we N t L B (.slice A3 (nn + 1) c3) ((its ++ new) ++ [⟨jnT (p ++ [x]), d, G, gc, Crc.tx s⟩]) (.slice UA2 (m + 1) uc2) (p ++ [x]) ∧ (∀ a, G = some a → wb.heap.size ≤ a.block) ∧
            ∃ wd, Below wb.heap.size wb wd ∧ Chg (fun i => (Value.slice AA nn cc).ownBlock = some i) wd we ∧ ((Value.slice A3 (nn + 1) c3).ownBlock = (Value.slice AA nn cc).ownBlock ∨ ∃ q, (Value.slice A3 (nn + 1) c3).ownBlock = some q ∧ wd.heap.size ≤ q) from fun W' G gc ho hb => by
        have hbd : Below wb.heap.size wb W' := HBC.out.trans ⟨hb.os, hb.tape, hb.output, hb.size, fun q hq => hb.block q (Nat.lt_of_lt_of_le hq HBC.out.size)⟩
        have hS5 : Sta W' N t L B (.slice AA nn cc) (its ++ new) (.slice UA2 (m + 1) uc2) (p ++ [x]) := HST2.out.keep hbd
        have hGb : ∀ a, G = some a → wc.heap.size ≤ a.block := fun a ea => (row_blk ho (k := a.block) (by rw [ea]; rfl)).1
        have hn5 := hS5.mem.nod _ _ _ HV1.out
        rw [HY.out] at hn5
        have hjs : (jnT (p ++ [x])).size ≤ 1000000 := HJS.out
        obtain ⟨v3, we, hrun, hS, hch, hv3⟩ := hS5.more (g := ⟨jnT (p ++ [x]), d, G, gc, Crc.tx s⟩) hjs (by show (Crc.tx s).length ≤ _; rw [Crc.tx_len]; exact HSS.out) (by show W'.ownsRow B _ 1 (.slice G (Crc.tx s).length gc) (Crc.tx s).length _; rw [Crc.tx_len]; exact own_low ho (Nat.le_trans HSTC.out.siz (Nat.le_refl _))) (tx_byt s) (fun a ea => by
            have h1 := hGb a ea
            refine ⟨fun e => ?_, fun e => ?_⟩
            · have := (row_blk HSTC.out.acc.row e).2
              omega
            · have := (row_blk HSTC.out.own e).2
              omega) hnl1
        have hrow := hS.acc.row
        rw [List.length_append, List.length_singleton, HNN.out] at hrow
        obtain ⟨A3, c3, rfl⟩ : ∃ A3 c3, v3 = .slice A3 (nn + 1) c3 := by
          rcases hrow.2 with ⟨_, h0⟩ | ⟨g, cap, cur, e, _⟩
          · omega
          · exact ⟨_, _, e⟩
        have hne := hS.mem.nod _ _ _ HV1.out
        rw [HY.out] at hne
        simp only [Crc.tx_len] at hrun
        exact ⟨⟨hn5.blt, hn5.c0, hn5.c1⟩, A3, c3, we, hrun, hne.c0, hne.c1, hS, fun a ea => Nat.le_trans HBC.out.size (hGb a ea), W', hbd, hch, hv3⟩)
      have HCL := Lib.hid (show Calls Tryz.prog 67 #[.slice y.A s.size y.c] wc.drew fun e w' => ∃ G gc, e = .returned (.slice G s.size gc) ∧ w'.ownsRow wc.heap.size 5 1 (.slice G s.size gc) s.size (Crc.u8s (Crc.tx s)) ∧ Below wc.heap.size wc.drew w' from
        (bclone_any wc.drew y.A s.size y.c (Crc.tx s) (Crc.own_bts (hNY.row.drew) (tx_byt s) (by have := HSS.out; omega)) (Crc.tx_len s) HSS.out).mono (by
          rintro e w' ⟨G, gc, rfl, ho, hb⟩
          rw [Crc.tx_len] at ho ⊢
          exact ⟨G, gc, rfl, ho, hb⟩))
      clear hbc hNY h2 hlk hc0 hnl1
      go_wp2_with fail
      go_region_held3 (fun W' => W'.cell? ⟨y.b, 0, none⟩ = some (.bool (!d)) ∧ W'.cell? ⟨y.b, 1, none⟩ = some (.slice y.A s.size y.c)) (go_keep)
        (first
        | (go_at_call 67
           with_reducible refine (HCL.out).mono ?_
           rintro e w5 ⟨G, gc, rfl, ho, hb⟩
           obtain ⟨⟨hl5, hk0, hk1⟩, A3, c3, we, hap3, hw0, hw1, hrest⟩ := HSTEP.out w5 G gc ho hb
           have HAP3 := Lib.hid hap3
           have HREST := Lib.hid hrest
           clear hap3 hrest ho hb)
        | ((refine step_append_run3 (by rfl) (.tmp 35) (.tmp 48) 41 (by rfl) _ _ _ (by rfl) (by rfl) (Hid.out (by assumption)) ?_)))
      obtain ⟨hS, hGf, wd, hbd, hch2, hv3⟩ := HREST.out
      have hl9 : ((its ++ new) ++ [(⟨jnT (p ++ [x]), d, G, gc, Crc.tx s⟩ : It)]).length = nn + 1 := by rw [List.length_append, HNN.out]; rfl
      have hcap : ((its ++ new) ++ [(⟨jnT (p ++ [x]), d, G, gc, Crc.tx s⟩ : It)]).length + (sb k t (p ++ [x])).length ≤ 1000000 := by
        have h1 := tells_len HI.out.tell
        have h2 := HPL.out
        rw [HNX.out, List.length_append] at h2
        have h3 : (FF t k p x).length = 1 + (sb k t (p ++ [x])).length := by unfold FF; rw [List.length_cons]; omega
        have h4 := HC.out
        have h5 := HNN.out
        rw [hl9, ← h5, List.length_append]
        omega
      have HR := Lib.hid (HREC.out x HXM.out we (nn + 1) c3 uc2 A3 UA2 _ hl9 hS hcap)
      rw [HY.out] at HR
      have HUP := Lib.hid (fun v9 new9 w9 (hI9 : ItR we N t L B (.slice A3 (nn + 1) c3) ((its ++ new) ++ [(⟨jnT (p ++ [x]), d, G, gc, Crc.tx s⟩ : It)]) (.slice UA2 (m + 1) uc2) (p ++ [x]) (sb k t (p ++ [x])) v9 new9 w9) =>
        show ItR w1 N t L B (.slice VA n vc) its (.slice UA m uc) p (((kidT t p).take (j + 1)).flatMap (FF t k p)) v9 (new ++ (⟨jnT (p ++ [x]), d, G, gc, Crc.tx s⟩ :: new9)) w9 from by
          have hup := ItR.up (y := th t (p ++ [x])) HSTA.out HCH.out HCASE.out hbd hch2 hv3 hGf hI9 (by unfold th; rw [HV1.out]; rfl)
          rw [HNX.out]
          exact HI.out.more hup)
      clear hS hGf hbd hch2 hv3 hl9 hcap hk0 hk1 hw0 hw1 hl5
      go_wp2_with fail
      refine HR.out.mono ?_
      rintro e w9 ⟨v9, new9, rfl, hI9⟩
      have hfin := HUP.out v9 new9 w9 hI9
      obtain ⟨A9, c9, rfl⟩ := row_slice3 hfin.sta.acc.row
      obtain ⟨n9, hn9⟩ : ∃ n9, n9 = (its ++ (new ++ (⟨jnT (p ++ [x]), d, G, gc, Crc.tx s⟩ :: new9))).length := ⟨_, rfl⟩
      rw [← hn9] at hfin ⊢
      have HFIN := Lib.hid hfin
      have HN9 := Lib.hid hn9
      clear hI9 hfin hn9
      go_wp2
      exact ⟨⟨j + 1, n9, c9, A9, _, by omega, rfl, by go_num, HN9.out.symm, HFIN.out⟩, by simp [intOf]; omega⟩
    · obtain rfl : j = K := by omega
      have HF := Lib.hid (show ItR w N t L B (.slice VA n vc) its (.slice UA m uc) p (sb (k + 1) t p) (.slice AA nn cc) new wr from by
        have := HI.out
        rw [HK.out, List.take_length, ← sb_FF] at this
        exact ItR.after HB1.out this)
      go_wp2
      go_ret
      exact ⟨_, new, rfl, HF.out⟩
end Trk
end Go.Proofs.YtafkccdbnfelkaaGreatDoor
/- The program's All. -/
namespace Go.Proofs.YtafkccdbnfelkaaGreatDoor
open Go.RowKit Go.MapKept
namespace Trk
open Tre (Nm Th It Its eqI smT allT jnT kidL kidT)

theorem items_any : ∀ (k : Nat) (w : World) (N : Nat) (t : List Th) (L : Nm → Nd) (B n vc m uc : Nat) (VA UA : Option Addr) (its : List It) (p : Nm) (v0 : Bool × ByteArray), Wf t → t.length ≤ 100000 → its.length = n → p.length = m → T t p = some v0 →
    Sta w N t L B (.slice VA n vc) its (.slice UA m uc) p → its.length + (sb (k + 1) t p).length ≤ 1000000 → 64 ≤ p.length + k →
    Calls Tryz.prog 39 #[.pointer (some ⟨(L p).b, 0, none⟩), .slice VA n vc, .slice UA m uc] w fun e w' => ∃ v' new, e = .returned v' ∧ ItR w N t L B (.slice VA n vc) its (.slice UA m uc) p (sb (k + 1) t p) v' new w' := by
  intro k
  induction k with
  | zero =>
    intro w N t L B n vc m uc VA UA its p v0 hW hl hn hm hv h hc hk
    refine items_step w N 0 t L B n vc m uc VA UA its p v0 hW hl hn hm hv h hc (fun x hx => ?_)
    obtain ⟨u, hu⟩ := Option.isSome_iff_exists.1 ((kidL_mem hW.once).1 ((kidT_perm t p).mem_iff.1 hx))
    have := (hW.nm _ (T_mem (by simp) hu)).2.1
    simp at this
    omega
  | succ k ih =>
    intro w N t L B n vc m uc VA UA its p v0 hW hl hn hm hv h hc hk
    refine items_step w N (k + 1) t L B n vc m uc VA UA its p v0 hW hl hn hm hv h hc (fun x hx W n' vc' uc' VA' UA' its' hn' hs hc' => ?_)
    obtain ⟨u, hu⟩ := Option.isSome_iff_exists.1 ((kidL_mem hW.once).1 ((kidT_perm t p).mem_iff.1 hx))
    exact ih W N t L B n' vc' (m + 1) uc' VA' UA' its' (p ++ [x]) u hW hl hn' (by simp [hm]) hu hs hc' (by simp; omega)

theorem tells_at {its : List It} {l : List Th} (h : tells its = told l) {j : Nat} (hj : j < its.length) (hl : j < l.length) : its[j].p = jnT l[j].1 ∧ its[j].d = l[j].2.1 ∧ its[j].b = Crc.tx l[j].2.2 := by
  have := congrArg (·[j]?) h
  simp only [tells, told, List.getElem?_map, List.getElem?_eq_getElem hj, List.getElem?_eq_getElem hl, Option.map_some, Option.some.injEq, Prod.mk.injEq] at this
  exact this
theorem tells_sm {its : List It} {t : List Th} (h : tells its = told (allT t)) : smT its t = true := by
  unfold Tre.smT
  refine decide_eq_true ⟨tells_len h, fun j hj hl => ?_⟩
  obtain ⟨h1, h2, h3⟩ := tells_at h hj hl
  exact ⟨h1, h2, by rw [h3, Ent.str_tx]⟩
theorem acc_its {w : World} {B n c : Nat} {A : Option Addr} {its : List It} (h : Acc w B (.slice A n c) its) (hn : its.length = n) (hl : n ≤ 1000000) : Its w A its := by
  refine ⟨by omega, fun g hg => ?_, fun j hj => ?_⟩
  · obtain ⟨h1, h2, h3, h4, _⟩ := h.ok g hg
    refine ⟨by omega, ?_, Crc.own_bts h3 h4 (by omega), ?_⟩
    · rcases h3.2 with ⟨e, h0⟩ | ⟨q, cap, cur, e, _, _, hq, _⟩
      · omega
      · simp only [Value.slice.injEq] at e
        omega
    · intro ea
      rcases h3.2 with ⟨e, h0⟩ | ⟨q, cap, cur, e, _⟩
      · simp only [Value.slice.injEq] at e
        exact e.2.2
      · simp only [Value.slice.injEq] at e
        rw [ea] at e
        cases e.1
  · obtain ⟨f0, f1, f2⟩ := icells_get hj
    rcases h.row.2 with ⟨e, h0⟩ | ⟨g, cap, cur, e, hB, hh, _, _, _, ht⟩
    · omega
    · simp only [Value.slice.injEq] at e
      have key : ∀ i, i < its.length * 3 → w.cell? ⟨g, 0 + i, none⟩ = (icells its)[i]? := fun i hi => by
        have := congrArg (·[i]?) ht
        rw [List.getElem?_take, if_pos hi] at this
        unfold World.cell?
        rw [hh, Nat.zero_add]
        simp only
        rw [← Array.getElem?_toList]
        exact this
      exact ⟨g, 0, e.1, (Array.getElem?_eq_some_iff.1 hh).1, (key _ (by omega)).trans f0, (key (j * 3 + 1) (by omega)).trans f1, (key (j * 3 + 2) (by omega)).trans f2⟩
set_option maxRecDepth 100000 in
set_option maxHeartbeats 1000000 in
theorem all_any (w : World) (N b0 : Nat) (t : List Th) (L : Nm → Nd) (hM : Mem w N t L) (hb : (L []).b = b0) (hW : Wf t) (hl : t.length ≤ 100000) :
    Calls Tryz.prog 13 #[.pointer (some ⟨b0, 0, none⟩)] w fun e w' => ∃ (A : Option Addr) (c : Nat) (its : List It), e = .returned (.slice A its.length c) ∧ Its w' A its ∧ tells its = told (allT t) ∧ Acc w' w.heap.size (.slice A its.length c) its ∧ Below w.heap.size w w' := by
  have hln : (sb 65 t []).length = t.length := by rw [sb_all hW (by omega)]; exact Tre.sorted_len _ _
  have hs : Sta w N t L w.heap.size (.slice none 0 0) [] (.slice none 0 0) [] :=
    ⟨hM, fun i hi => hM.lt hi, Nat.le_refl _, ⟨World.ownsRow_nil _ _ _ _, fun g hg => by simp at hg⟩, World.ownsRow_nil _ _ _ _, fun k hk => (by cases hk), fun g hg => (by simp at hg)⟩
  have HI := Lib.hid (items_any 64 w N t L w.heap.size 0 0 0 0 none none [] [] _ hW hl rfl rfl (T_root t) hs (by rw [hln]; simp; omega) (by simp))
  rw [hb] at HI
  have HALL := Lib.hid (sb_all hW (k := 65) (by omega))
  have HLN := Lib.hid hln
  clear hM hs hln
  go_enter Tryz.func13, Tryz.ntmps13
  go_wp2_with fail
  refine HI.out.mono ?_
  rintro e w' ⟨v', new, rfl, hI⟩
  have ha := hI.sta.acc
  rw [List.nil_append] at ha
  have ht := hI.tell
  have hn := tells_len ht
  rw [HLN.out] at hn
  rw [HALL.out] at ht
  obtain ⟨A, c, rfl⟩ := row_slice3 ha.row
  have HR := Lib.hid (show Its w' A new ∧ tells new = told (allT t) ∧ Acc w' w.heap.size (.slice A new.length c) new ∧ Below w.heap.size w w' from ⟨acc_its ha rfl (by omega), ht, ha, hI.chg.below (Nat.le_refl _) (fun i hi => by rcases hi with hi | hi <;> cases hi)⟩)
  obtain ⟨n, hnn⟩ : ∃ n, n = new.length := ⟨_, rfl⟩
  rw [← hnn]
  have HNN := Lib.hid hnn
  clear hI ha ht hn hnn
  go_wp2
  go_ret
  exact ⟨A, c, new, by rw [← HNN.out]; rfl, HR.out.1, HR.out.2.1, HR.out.2.2.1, HR.out.2.2.2⟩
end Trk
end Go.Proofs.YtafkccdbnfelkaaGreatDoor
/- CrcSums, walked: both sums are the document's, as of all bytes in one. -/
namespace Go.Proofs.YtafkccdbnfelkaaGreatDoor
open Go.RowKit Go.MapKept
namespace Crc

section
variable {w : World}
theorem str_append (l m : List Nat) : str (l ++ m) = str l ++ str m := by
  apply ByteArray.ext
  rw [ByteArray.data_append]
  simp [str]

theorem flat_len {ps : List Prt} (h : ∀ i (h : i < ps.length), ps[i].l.length ≤ 200) : (flat ps).length ≤ 200 * ps.length := by
  induction ps with
  | nil => simp [flat]
  | cons q ps ih =>
    have h0 := h 0 (by simp)
    have h1 := ih (fun i hi => by
      have := h (i + 1) (by simpa using hi)
      simpa using this)
    simp only [flat, List.flatMap_cons, List.length_append, List.length_cons, List.getElem_cons_zero] at *
    omega

theorem bts_text (W : World) (s : ByteArray) (cap : Nat) (fr : Nat × Nat) (hs : s.size < 1000000000000) : Bts (W.alloc (.cells (bytesRow s cap) 5 fr)) (some ⟨W.heap.size, 0, none⟩) (tx s) :=
  ⟨tx_byt s, by rw [tx_len]; omega, fun j hj => ⟨W.heap.size, 0, rfl, by simp, by
    rw [World.cell?_alloc_mark, Nat.zero_add]
    rw [tx_len] at hj
    rw [bytesRow_at s cap j hj]
    congr 2
    simp [tx]⟩⟩

/-- a text's bytes, anew -/
theorem conv_bytes (W : World) (l : List Nat) (hb : Byt l) (hl : l.length ≤ 4000) : ∃ (W2 : World) (gc : Nat), (convert 9 30 (.string (str l))).run Tryz.prog W = .ok (.slice (some ⟨W.heap.size, 0, none⟩) l.length gc) W2 ∧ Bts W2 (some ⟨W.heap.size, 0, none⟩) l ∧ Below W.heap.size W W2 := by
  have h := run_bytes_of_string (P := Tryz.prog) W 9 30 5 (str l) Tryz.underlying9 Tryz.underlying30 Tryz.underlying5
  have hz := str_size l
  have hbt := bts_text W.drew (str l) (grownCap W (str l).size 0 5) ((bytesRow (str l) (grownCap W (str l).size 0 5)).size, (bytesRow (str l) (grownCap W (str l).size 0 5)).size + 1) (by omega)
  rw [tx_str hb] at hbt
  refine ⟨_, grownCap W (str l).size 0 5, ?_, hbt, (Below.refl _ _).drew.alloc (Nat.le_refl _) _⟩
  rw [h, hz]

end
end Crc
end Go.Proofs.YtafkccdbnfelkaaGreatDoor
/- Law 13's example. -/
namespace Go.Proofs.YtafkccdbnfelkaaGreatDoor
open Go.RowKit Go.MapKept
namespace Trk
open Tre (Nm Th fi isDirAt dirT goT goF setT dropT fileT addT zt datT unlinkT rmdirT kidT kidL fv writeT wrT truncT readT)
open Pat (Txs)

/-- a tree of the call's own -/
def Own (w0 : World) (B N : Nat) (t : List Th) (b : Nat) (w : World) : Prop := ∃ L, Mem w N t L ∧ (L []).b = b ∧ (∀ i, Fp t L i → B ≤ i) ∧ Below B w0 w ∧ B ≤ w.heap.size
theorem Own.keep {w0 w w' : World} {B N b : Nat} {t : List Th} (h : Own w0 B N t b w) (hb : Below w.heap.size w w') : Own w0 B N t b w' := by
  obtain ⟨L, h1, h2, h3, h4, h5⟩ := h
  exact ⟨L, h1.keep hb, h2, h3, h4.trans (hb.mono h5), Nat.le_trans h5 hb.size⟩
theorem Own.step {w0 w w' : World} {B N b : Nat} {t t' : List Th} {L : Nm → Nd} (hF : ∀ i, Fp t L i → B ≤ i) (hb : (L []).b = b) (hB : Below B w0 w) (hs : B ≤ w.heap.size) (h : TrkR w N t L t' w') : Own w0 B (N + 1) t' b w' := by
  obtain ⟨h1, L', h2, h3, h4⟩ := h
  refine ⟨L', h2, h3.trans hb, fun i hi => (h4 i hi).elim (hF i) (fun e => Nat.le_trans hs e), hB.trans (h1.below hs hF), Nat.le_trans hs h1.size⟩
theorem own_new {w w' : World} (hm : Mem w' 0 [] (L0 w.heap.size)) (hb : Below w.heap.size w w') : Own w w.heap.size 0 [] w.heap.size w' := by
  refine ⟨_, hm, rfl, fun i hi => ?_, hb, hb.size⟩
  obtain ⟨p, v, _, hi⟩ := hi
  have : i = w.heap.size := by simpa [own, L0] using hi
  omega

def t1 : List Th := [([⟨#[97]⟩], true, ByteArray.empty)]
def t2 : List Th := [([⟨#[97]⟩], true, ByteArray.empty), ([⟨#[97]⟩, ⟨#[98]⟩], false, ByteArray.empty)]
def t3 : List Th := [([⟨#[97]⟩], true, ByteArray.empty), ([⟨#[97]⟩, ⟨#[98]⟩], false, ⟨#[0, 0, 120]⟩)]
theorem e1 : addT [] ⟨#[47, 97]⟩ true = (t1, 0) := by kernel_rfl
theorem e2 : addT t1 ⟨#[47, 97, 47, 98]⟩ false = (t2, 0) := by kernel_rfl
theorem e3 : writeT t2 ⟨#[47, 97, 47, 98]⟩ 2 (Crc.str [120]) = (t3, 0) := by kernel_rfl
theorem e4 : rmdirT t3 ⟨#[47, 97]⟩ = (t3, 8) := by kernel_rfl
theorem e5 : readT t3 ⟨#[47, 97, 47, 98]⟩ 0 9 = (⟨#[0, 0, 120]⟩, 0) := by kernel_rfl
theorem w1f : Wf t1 := by
  have := wf_nil.add ⟨#[47, 97]⟩ true
  rw [e1] at this
  exact this
theorem w2f : Wf t2 := by
  have := w1f.add ⟨#[47, 97, 47, 98]⟩ false
  rw [e2] at this
  exact this
theorem w3f : Wf t3 := by
  have := w2f.write ⟨#[47, 97, 47, 98]⟩ 2 (bs := [120]) (by unfold Crc.Byt; decide)
  rw [e3] at this
  exact this
theorem bts_mark (w : World) : Crc.Bts (w.alloc (.cells #[.int .u8 120] 5 (1, 2))) (some ⟨w.heap.size, 0, none⟩) [120] := by
  refine ⟨by unfold Crc.Byt; decide, by decide, fun j hj => ⟨w.heap.size, 0, rfl, by simp, ?_⟩⟩
  obtain rfl : j = 0 := by simpa using hj
  rw [World.cell?_alloc_mark]
  rfl
section
variable {w0 w : World} {B b : Nat}
theorem mkdir_ex (h : Own w0 B 0 [] b w) :
    Calls Tryz.prog 24 #[.pointer (some ⟨b, 0, none⟩), .string ⟨#[47, 97]⟩] w fun e w' => e = .returned (.int .i64 0) ∧ Own w0 B 1 t1 b w' := by
  obtain ⟨L, h1, h2, h3, h4, h5⟩ := h
  have h := mkdir_any w 0 b [] L ⟨#[47, 97]⟩ h1 h2 wf_nil (by decide) (by decide)
  rw [e1] at h
  exact h.mono fun e w' hr => ⟨hr.1, Own.step h3 h2 h4 h5 hr.2⟩
theorem create_ex (h : Own w0 B 1 t1 b w) :
    Calls Tryz.prog 25 #[.pointer (some ⟨b, 0, none⟩), .string ⟨#[47, 97, 47, 98]⟩] w fun e w' => e = .returned (.int .i64 0) ∧ Own w0 B 2 t2 b w' := by
  obtain ⟨L, h1, h2, h3, h4, h5⟩ := h
  have h := create_any w 1 b t1 L ⟨#[47, 97, 47, 98]⟩ h1 h2 w1f (by decide) (by decide)
  rw [e2] at h
  exact h.mono fun e w' hr => ⟨hr.1, Own.step h3 h2 h4 h5 hr.2⟩
theorem write_ex {w1 : World} (c : Nat) (h : Own w0 B 2 t2 b w) (hb : Below w.heap.size w w1) (hB : Crc.Bts w1 (some ⟨w.heap.size, 0, none⟩) [120]) :
    Calls Tryz.prog 26 #[.pointer (some ⟨b, 0, none⟩), .string ⟨#[47, 97, 47, 98]⟩, .int .i64 2, .slice (some ⟨w.heap.size, 0, none⟩) 1 c] w1 fun e w' => e = .returned (.int .i64 0) ∧ Own w0 B 3 t3 b w' := by
  obtain ⟨L, h1, h2, h3, h4, h5⟩ := h
  have h := wr_any w1 2 b t2 L ⟨#[47, 97, 47, 98]⟩ 2 1 c _ [120] (h1.keep hb) h2 w2f (by decide) rfl (by decide) hB (fun ad e _ hi => by injection e with e; subst e; have := h1.lt hi; simp at this)
  rw [e3] at h
  exact h.mono fun e w' hr => ⟨hr.1, Own.step h3 h2 (h4.trans (hb.mono h5)) (Nat.le_trans h5 hb.size) hr.2⟩
theorem rmdir_ex (h : Own w0 B 3 t3 b w) :
    Calls Tryz.prog 27 #[.pointer (some ⟨b, 0, none⟩), .string ⟨#[47, 97]⟩] w fun e w' => e = .returned (.int .i64 8) ∧ Own w0 B 4 t3 b w' := by
  obtain ⟨L, h1, h2, h3, h4, h5⟩ := h
  have h := rmdir_any w 3 b t3 L ⟨#[47, 97]⟩ h1 h2 w3f (by decide)
  rw [e4] at h
  exact h.mono fun e w' hr => ⟨hr.1, Own.step h3 h2 h4 h5 hr.2⟩
theorem read_ex (h : Own w0 B 4 t3 b w) :
    Calls Tryz.prog 28 #[.pointer (some ⟨b, 0, none⟩), .string ⟨#[47, 97, 47, 98]⟩, .int .i64 0, .int .i64 9] w fun e w' => ∃ (G : Option Addr) (gc : Nat), e = .returned (.tuple #[.slice G 3 gc, .int .i64 0]) ∧ Crc.Bts w' G [0, 0, 120] ∧ Below B w0 w' := by
  obtain ⟨L, h1, h2, h3, h4, h5⟩ := h
  have h := rd_any w 4 b t3 L ⟨#[47, 97, 47, 98]⟩ 0 9 h1 h2 w3f (by decide) (by decide) (by decide)
  rw [e5] at h
  refine h.mono ?_
  rintro e w' ⟨G, n, gc, rfl, hn, ho, hb'⟩
  obtain rfl : n = 3 := by rw [← hn]; rfl
  exact ⟨G, gc, rfl, Crc.own_bts ho (by unfold Crc.Byt; decide) (by decide), h4.trans (hb'.mono h5)⟩
end

set_option maxRecDepth 100000 in
set_option maxHeartbeats 1000000 in
theorem lives_any (w : World) : Calls Tryz.prog 6 #[] w fun e w' => e = .returned (.bool true) ∧ Below w.heap.size w w' := by
  have H0 := Lib.hid (new_any w)
  have H1 := Lib.hid Pat.lives_any
  go_enter Tryz.func6, Tryz.ntmps6
  go_wp2_with fail
  refine H0.out.mono ?_
  rintro e wa ⟨rfl, hm, hb, _⟩
  have HA := Lib.hid (own_new hm hb)
  clear hm hb H0
  generalize hbb : w.heap.size = b at *
  have HBB := Lib.hid hbb
  clear hbb
  go_wp2_with fail
  refine (H1.out _).mono ?_
  rintro e wb ⟨rfl, hb⟩
  have HB := Lib.hid (HA.out.keep hb)
  clear hb
  go_wp2_with fail
  refine (mkdir_ex HB.out).mono ?_
  rintro e wc ⟨rfl, hc⟩
  have HC := Lib.hid hc
  clear hc
  go_wp2_with fail
  refine (create_ex HC.out).mono ?_
  rintro e wd ⟨rfl, hd⟩
  have HD := Lib.hid hd
  clear hd
  have hcv := Crc.conv_new wd #[.int .u8 120] 1 1
  have HE := Lib.hid (write_ex 1 HD.out ((Below.refl _ wd).alloc (Nat.le_refl _) (.cells #[.int .u8 120] 5 (1, 2))) (bts_mark wd))
  go_wp2_with fail
  refine HE.out.mono ?_
  rintro e wf ⟨rfl, hf⟩
  have HF := Lib.hid hf
  clear hf
  go_wp2_with fail
  refine (rmdir_ex HF.out).mono ?_
  rintro e wg ⟨rfl, hg⟩
  have HG := Lib.hid hg
  clear hg
  go_wp2_with fail
  refine (read_ex HG.out).mono ?_
  rintro e wh ⟨G, gc2, rfl, hbt, hbh⟩
  have HH := Lib.hid hbh
  have hcs := Crc.conv_str gc2 hbt
  simp only [show Crc.str [0, 0, 120] = ⟨#[0, 0, 120]⟩ from rfl, List.length_cons, List.length_nil, Nat.zero_add] at hcs
  clear hbt hbh
  go_wp2
  go_ret
  exact ⟨rfl, by rw [HBB.out]; exact HH.out⟩
end Trk
end Go.Proofs.YtafkccdbnfelkaaGreatDoor
/- The program's add, Of: a tree of items. -/
namespace Go.Proofs.YtafkccdbnfelkaaGreatDoor
open Go.RowKit Go.MapKept
namespace Trk
open Tre (Nm Th It Its addT writeT fileT allT)

/-- a tree as deeds leave it -/
def TrkN (w : World) (N' : Nat) (t : List Th) (L : Nm → Nd) (t' : List Th) (w' : World) : Prop :=
  Chg (Fp t L) w w' ∧ ∃ L', Mem w' N' t' L' ∧ (L' []).b = (L []).b ∧ ∀ i, Fp t' L' i → Fp t L i ∨ w.heap.size ≤ i
theorem TrkR.to {w w' : World} {N N' : Nat} {t t' : List Th} {L : Nm → Nd} (h : TrkR w N t L t' w') (hN : N + 1 ≤ N') : TrkN w N' t L t' w' := by
  obtain ⟨h1, L', h2, h3⟩ := h
  exact ⟨h1, L', h2.mono hN, h3⟩
theorem TrkN.after {w w1 w' : World} {N' : Nat} {t t' : List Th} {L : Nm → Nd} (hb : Below w.heap.size w w1) (h : TrkN w1 N' t L t' w') : TrkN w N' t L t' w' := by
  obtain ⟨h1, L', h2, h3, h4⟩ := h
  exact ⟨Chg.after hb h1, L', h2, h3, fun i hi => (h4 i hi).imp id (fun e => Nat.le_trans hb.size e)⟩
theorem TrkN.then {w w1 w2 : World} {N2 : Nat} {t t1 t2 : List Th} {L L1 : Nm → Nd} (hc : Chg (Fp t L) w w1) (hf : ∀ i, Fp t1 L1 i → Fp t L i ∨ w.heap.size ≤ i) (hb : (L1 []).b = (L []).b) (h : TrkN w1 N2 t1 L1 t2 w2) : TrkN w N2 t L t2 w2 := by
  obtain ⟨h1, L2, h2, h3, h4⟩ := h
  exact ⟨hc.trans h1 hf, L2, h2, h3.trans hb, fun i hi => (h4 i hi).elim (hf i) (fun e => .inr (Nat.le_trans hc.size e))⟩
theorem bts_chg {w w' : World} {F : Nat → Prop} {A : Option Addr} {l : List Nat} (h : Crc.Bts w A l) (hc : Chg F w w') (hA : ∀ ad, A = some ad → l ≠ [] → ¬ F ad.block) : Crc.Bts w' A l :=
  ⟨h.byt, h.len, fun j hj => by
    obtain ⟨g, o, e, hlt, hcl⟩ := h.at' j hj
    have hg := hA _ e (fun h0 => by rw [h0] at hj; simp at hj)
    exact ⟨g, o, e, Nat.lt_of_lt_of_le hlt hc.size, (World.cell?_of_block (w := w) (a := ⟨g, o + j, none⟩) (hc.block g hlt hg)).trans hcl⟩⟩
theorem bts_blk {w : World} {A : Option Addr} {l : List Nat} (h : Crc.Bts w A l) {ad : Addr} (e : A = some ad) (h0 : l ≠ []) : ad.block < w.heap.size := by
  obtain ⟨b, o, e', hlt, _⟩ := h.at' 0 (List.length_pos_iff.2 h0)
  rw [e] at e'
  injection e' with e'
  rw [e']
  exact hlt
/-- an item's thing -/
def addI (t : List Th) (p : ByteArray) (d : Bool) (bs : List Nat) : List Th × Int :=
  if d = true then (if (addT t p true).2 ≠ 0 then addT t p true else if 0 < bs.length then ((addT t p true).1, 9) else ((addT t p true).1, 0))
  else (if (addT t p false).2 ≠ 0 then addT t p false else writeT (addT t p false).1 p 0 (Crc.str bs))
theorem Wf.addI {t : List Th} (hW : Wf t) (p : ByteArray) (d : Bool) {bs : List Nat} (hb : Crc.Byt bs) : Wf (addI t p d bs).1 := by
  unfold Trk.addI
  cases d with
  | true =>
    rw [if_pos rfl]
    split
    · exact hW.add p true
    · split <;> exact hW.add p true
  | false =>
    rw [if_neg (by decide)]
    split
    · exact hW.add p false
    · exact (hW.add p false).write p 0 hb
set_option maxRecDepth 100000 in
set_option maxHeartbeats 1000000 in
theorem add_any (w : World) (N b : Nat) (t : List Th) (L : Nm → Nd) (p : ByteArray) (d : Bool) (m c : Nat) (A : Option Addr) (bs : List Nat) (hMM : Mem w N t L) (hLb : (L []).b = b) (hW : Wf t) (hp : p.size < 4294967281) (hN : N ≤ 999999) (hm : bs.length = m) (hml : m ≤ 1000000) (hA : Crc.Bts w A bs) (hB : ∀ ad, A = some ad → bs ≠ [] → ¬ Fp t L ad.block) :
    Calls Tryz.prog 50 #[.pointer (some ⟨b, 0, none⟩), .agg #[.string p, .bool d, .slice A m c]] w fun e w' => e = .returned (.int .i64 (addI t p d bs).2) ∧ TrkN w (N + 2) t L (addI t p d bs).1 w' := by
  have H := Lib.hid hMM
  have HA := Lib.hid hA
  have HBB := Lib.hid hB
  have HM := Lib.hid hm
  have hb1 := (Below.refl w.heap.size w).alloc (Nat.le_refl _) (.cells #[.string p, .bool d, .slice A m c] 49)
  have HB1 := Lib.hid hb1
  have HM1 := Lib.hid (hMM.keep hb1)
  have hk0 : ∀ W, Chg (Fp t L) (w.alloc (.cells #[.string p, .bool d, .slice A m c] 49)) W → W.cell? ⟨w.heap.size, 0, none⟩ = some (.string p) ∧ W.cell? ⟨w.heap.size, 2, none⟩ = some (.slice A m c) := fun W hc => by
    have he : W.heap[w.heap.size]? = (w.alloc (.cells #[.string p, .bool d, .slice A m c] 49)).heap[w.heap.size]? := hc.block _ (by simp) (fun hf => by have := hMM.lt hf; omega)
    refine ⟨(World.cell?_of_block (a := ⟨w.heap.size, 0, none⟩) he).trans (Crc.alloc_cell w _ _ 0), (World.cell?_of_block (a := ⟨w.heap.size, 2, none⟩) he).trans (Crc.alloc_cell w _ _ 2)⟩
  have HK := Lib.hid hk0
  clear hMM hA hB hm hb1 hk0
  cases d with
  | true =>
    have hbl : m = bs.length := HM.out.symm
    have HZ := Lib.hid (show addI t p true bs = if (addT t p true).2 ≠ 0 then addT t p true else if 0 < m then ((addT t p true).1, 9) else ((addT t p true).1, 0) by unfold addI; rw [if_pos rfl, hbl])
    have HMK := Lib.hid (mkdir_any _ N b t L p HM1.out hLb hW hp (by omega))
    clear hbl
    go_enter Tryz.func50, Tryz.ntmps50
    go_wp2_with fail
    refine HMK.out.mono ?_
    rintro e w2 ⟨rfl, hr⟩
    obtain ⟨hc0, hc2⟩ := HK.out w2 hr.1
    have HR := Lib.hid (TrkN.after HB1.out (hr.to (N' := N + 2) (by omega)))
    clear hr
    by_cases he : (addT t p true).2 = 0
    · have HZ2 := Lib.hid (HZ.out.trans (if_neg (fun h => h he)))
      rw [he]
      clear he
      by_cases h0 : 0 < m
      · have HZ3 := Lib.hid (HZ2.out.trans (if_pos h0))
        go_wp2
        refine bodyPost_ret (v := .int .i64 9) ?_ rfl ⟨by rw [HZ3.out], by rw [HZ3.out]; exact HR.out⟩
        simp [results, Tryz.results50, go_sem]
      · have HZ3 := Lib.hid (HZ2.out.trans (if_neg h0))
        go_wp2
        refine bodyPost_ret (v := .int .i64 0) ?_ rfl ⟨by rw [HZ3.out], by rw [HZ3.out]; exact HR.out⟩
        simp [results, Tryz.results50, go_sem]
    · have HZ2 := Lib.hid (HZ.out.trans (if_pos he))
      generalize hg : (addT t p true).2 = g at *
      have HG := Lib.hid hg
      clear hg
      go_wp2
      refine bodyPost_ret (v := .int .i64 g) ?_ rfl ⟨by rw [HZ2.out, HG.out], by rw [HZ2.out]; exact HR.out⟩
      simp [results, Tryz.results50, go_sem]
  | false =>
    have HZ := Lib.hid (show addI t p false bs = if (addT t p false).2 ≠ 0 then addT t p false else writeT (addT t p false).1 p 0 (Crc.str bs) by unfold addI; rw [if_neg (by decide)])
    have HMK := Lib.hid (create_any _ N b t L p HM1.out hLb hW hp (by omega))
    go_enter Tryz.func50, Tryz.ntmps50
    go_wp2_with fail
    refine HMK.out.mono ?_
    rintro e w2 ⟨rfl, hr⟩
    obtain ⟨hc0, hc2⟩ := HK.out w2 hr.1
    have HR := Lib.hid hr
    clear hr
    by_cases he : (addT t p false).2 = 0
    · have HZ2 := Lib.hid (HZ.out.trans (if_neg (fun h => h he)))
      rw [he]
      clear he
      obtain ⟨hch, L1, hm1, hbb, hf1⟩ := HR.out
      have HC1 := Lib.hid (Chg.after HB1.out hch)
      have HF1 := Lib.hid (show ∀ i, Fp (addT t p false).1 L1 i → Fp t L i ∨ w.heap.size ≤ i from fun i hi => (hf1 i hi).imp id (fun e => Nat.le_trans HB1.out.size e))
      have HWR := Lib.hid (wr_any w2 (N + 1) b (addT t p false).1 L1 p 0 m c A bs hm1 (hbb.trans hLb) (hW.add p false) hp HM.out hml (bts_chg HA.out HC1.out HBB.out) (fun ad e h0 hi => by
        rcases HF1.out _ hi with h1 | h1
        · exact HBB.out ad e h0 h1
        · have := bts_blk HA.out e h0
          omega))
      have HBBL := Lib.hid hbb
      clear hch hm1 hbb hf1
      go_wp2_with fail
      refine HWR.out.mono ?_
      rintro e w3 ⟨rfl, hr3⟩
      have HR3 := Lib.hid (TrkN.then HC1.out HF1.out HBBL.out (hr3.to (N' := N + 2) (by omega)))
      clear hr3
      generalize hg : (writeT (addT t p false).1 p 0 (Crc.str bs)).2 = g
      have HG := Lib.hid hg
      clear hg
      go_wp2
      refine bodyPost_ret (v := .int .i64 g) ?_ rfl ⟨by rw [HZ2.out, HG.out], by rw [HZ2.out]; exact HR3.out⟩
      simp [results, Tryz.results50, go_sem]
    · have HZ2 := Lib.hid (HZ.out.trans (if_pos he))
      have HRR := Lib.hid (TrkN.after HB1.out (HR.out.to (N' := N + 2) (by omega)))
      clear HR
      generalize hg : (addT t p false).2 = g at *
      have HG := Lib.hid hg
      clear hg
      go_wp2
      refine bodyPost_ret (v := .int .i64 g) ?_ rfl ⟨by rw [HZ2.out, HG.out], by rw [HZ2.out]; exact HRR.out⟩
      simp [results, Tryz.results50, go_sem]
end Trk
end Go.Proofs.YtafkccdbnfelkaaGreatDoor
/- The program's Of. -/
namespace Go.Proofs.YtafkccdbnfelkaaGreatDoor
open Go.RowKit Go.MapKept
namespace Trk
open Tre (Nm Th It Its addT writeT fileT allT)

def stp (r : List Th × Int) (g : It) : List Th × Int := if r.2 ≠ 0 then r else addI r.1 g.p g.d g.b
/-- what items make, one by one, and what is wrong first -/
def ofS (its : List It) : List Th × Int := its.foldl stp ([], 0)
theorem ofS_take {its : List It} {j : Nat} (h : j < its.length) : ofS (its.take (j + 1)) = stp (ofS (its.take j)) its[j] := by
  unfold ofS
  rw [List.take_succ_eq_append_getElem h, List.foldl_append]
  rfl
theorem stp_stay : ∀ (its : List It) (r : List Th × Int), r.2 ≠ 0 → its.foldl stp r = r
  | [], _, _ => rfl
  | g :: its, r, h => by
    rw [List.foldl_cons]
    have : stp r g = r := if_pos h
    rw [this]
    exact stp_stay its r h
theorem ofS_stay {its : List It} {j : Nat} (h : (ofS (its.take j)).2 ≠ 0) : ofS its = ofS (its.take j) := by
  have e : ofS its = (its.drop j).foldl stp (ofS (its.take j)) := by
    unfold ofS
    rw [← List.foldl_append, List.take_append_drop]
  rw [e]
  exact stp_stay _ _ h
/-- items that may be handed in -/
structure Fit (its : List It) : Prop where
  len : its.length ≤ 1000
  ok : ∀ g ∈ its, g.p.size < 4294967281 ∧ g.b.length ≤ 1000000
theorem ofS_wf {its : List It} (hb : ∀ g ∈ its, Crc.Byt g.b) : ∀ j, Wf (ofS (its.take j)).1
  | 0 => by rw [List.take_zero]; exact wf_nil
  | j + 1 => by
    by_cases h : j < its.length
    · rw [ofS_take h]
      unfold stp
      split
      · exact ofS_wf hb j
      · exact (ofS_wf hb j).addI _ _ (hb _ (List.getElem_mem h))
    · rw [List.take_of_length_le (by omega), ← List.take_of_length_le (i := j) (l := its) (by omega)]
      exact ofS_wf hb j
set_option maxRecDepth 100000 in
set_option maxHeartbeats 1000000 in
theorem of_any (w : World) (A : Option Addr) (n c : Nat) (its : List It) (hI : Its w A its) (hF : Fit its) (hn : its.length = n) :
    Calls Tryz.prog 19 #[.slice A n c] w fun e w' => Below w.heap.size w w' ∧ (((ofS its).2 ≠ 0 ∧ e = .returned (.tuple #[.pointer none, .int .i64 (ofS its).2])) ∨ ((ofS its).2 = 0 ∧ ∃ b N L, e = .returned (.tuple #[.pointer (some ⟨b, 0, none⟩), .int .i64 0]) ∧ Mem w' N (ofS its).1 L ∧ (L []).b = b ∧ w.heap.size ≤ b ∧ ∀ i, Fp (ofS its).1 L i → w.heap.size ≤ i)) := by
  have HI := Lib.hid hI
  have HN := Lib.hid hn
  have HF := Lib.hid hF
  have hnl : n ≤ 1000 := by rw [← hn]; exact hF.len
  have HBY := Lib.hid (show ∀ g ∈ its, Crc.Byt g.b from fun g hg => (hI.ok g hg).2.2.1.byt)
  clear hI hn hF
  go_enter Tryz.func19, Tryz.ntmps19
  go_wp2_with fail
  refine (new_any w).mono ?_
  rintro e w1 ⟨rfl, hm, hb1, _⟩
  have HM1 := Lib.hid hm
  have HB1 := Lib.hid hb1
  obtain ⟨b, hbe⟩ : ∃ b, b = w.heap.size := ⟨_, rfl⟩
  rw [← hbe] at HM1 ⊢
  have HBE := Lib.hid hbe
  clear hm hb1 hbe
  go_wp2_with fail
  go_loopw [11] (fun ix wr => ∃ (j : Nat) (L1 : Nm → Nd), j ≤ n ∧ ix = .int .i64 (j : Int) ∧ (ofS (its.take j)).2 = 0 ∧ Mem wr (2 * j) (ofS (its.take j)).1 L1 ∧ (L1 []).b = b ∧ (∀ i, Fp (ofS (its.take j)).1 L1 i → w.heap.size ≤ i) ∧ Below w.heap.size w wr) (fun ix _ => n - (intOf ix).toNat)
  case atStart =>
    refine ⟨0, L0 b, Nat.zero_le _, rfl, rfl, HM1.out, rfl, fun i hi => ?_, HB1.out⟩
    have h1 := HBE.out
    obtain ⟨m, v, hmm, e⟩ := hi
    have h2 : i = b := by simpa [own, L0] using e
    omega
  case round =>
    obtain ⟨j, L1, hj, rfl, h0, hmj, hbj, hfj, hbw⟩ := hrel
    have HMJ := Lib.hid hmj
    have HFJ := Lib.hid hfj
    have HBJ := Lib.hid hbj
    have HBW := Lib.hid hbw
    have H0 := Lib.hid h0
    clear hmj hfj hbj h0
    have hnn := HN.out
    by_cases hlt : j < n
    · have hlti : j < its.length := by omega
      obtain ⟨bi, oi, rfl, hbli, k0, k1, k2⟩ := (HI.out.keep hbw).at' j hlti
      have hbts := HI.out.ok _ (List.getElem_mem hlti)
      have HBT := Lib.hid hbts.2.2.1
      have HOK := Lib.hid (HF.out.ok _ (List.getElem_mem hlti))
      have HST := Lib.hid (ofS_take hlti)
      have HWF := Lib.hid (ofS_wf HBY.out j)
      have HTK := Lib.hid (fun h => ofS_stay (its := its) (j := j + 1) h)
      clear hbts hbw
      generalize hq : its[j] = q at *
      clear hq
      obtain ⟨tp, td, ta, tc0, tb⟩ := q
      generalize hr0 : ofS (its.take j) = r0 at *
      have HST2 := Lib.hid (show ofS (its.take (j + 1)) = addI r0.1 tp td tb from HST.out.trans (if_neg (fun h => h H0.out)))
      clear hr0 HST
      simp only at k0 k1 k2 HBT HOK
      obtain ⟨tm, htm⟩ : ∃ m, m = tb.length := ⟨_, rfl⟩
      rw [← htm] at k2
      have HTM := Lib.hid htm
      clear htm
      have hbA := (Below.refl wr.heap.size wr).alloc (Nat.le_refl _) (.cells #[.string tp, .bool td, .slice ta tm tc0] 49)
      have HADD := Lib.hid (add_any _ (2 * j) b r0.1 L1 tp td tm tc0 ta tb (HMJ.out.keep hbA) HBJ.out HWF.out HOK.out.1 (by omega) HTM.out.symm (by rw [HTM.out]; exact HOK.out.2) (HBT.out.keep (HBW.out.trans (hbA.mono HBW.out.size))) (fun ad e h0 hi => by
        have h1 := HFJ.out _ hi
        have h2 := bts_blk HBT.out e h0
        omega))
      have HBA := Lib.hid (HBW.out.trans (hbA.mono HBW.out.size))
      have hj0 : (j : Int) < (n : Int) := by omega
      have hm0 : (0 : Int) ≤ (j : Int) := by omega
      clear hbA hnn
      go_wp2_with fail
      refine HADD.out.mono ?_
      rintro e w3 ⟨rfl, hr3⟩
      have HR3 := Lib.hid hr3
      clear hr3
      by_cases he : (addI r0.1 tp td tb).2 = 0
      · have HE := Lib.hid he
        rw [he]
        clear he
        go_wp2
        obtain ⟨hch, L3, hm3, hbb, hf3⟩ := HR3.out
        refine ⟨⟨j + 1, L3, by omega, by go_num, by rw [HST2.out]; exact HE.out, by rw [HST2.out]; exact hm3, hbb.trans HBJ.out, ?_, ?_⟩, by simp [intOf]; omega⟩
        · rw [HST2.out]
          exact fun i hi => (hf3 i hi).elim (HFJ.out i) (fun h => Nat.le_trans HBA.out.size h)
        · exact HBA.out.trans (Chg.below hch HBA.out.size HFJ.out)
      · have HE := Lib.hid he
        have HQ := Lib.hid (show ofS its = addI r0.1 tp td tb from (HTK.out (by rw [HST2.out]; exact he)).trans HST2.out)
        have HBZ := Lib.hid (HBA.out.trans (Chg.below HR3.out.1 HBA.out.size HFJ.out))
        clear he
        generalize addI r0.1 tp td tb = r1 at *
        obtain ⟨t1, e1⟩ := r1
        simp only at HE HR3
        have hne : (e1 != 0) = true := bne_iff_ne.2 HE.out
        go_wp2
        all_goals try (rename_i hx; exact absurd (hx.symm.trans hne) (by decide))
        refine bodyPost_ret (v := .tuple #[.pointer none, .int .i64 e1]) ?_ rfl ⟨HBZ.out, .inl ⟨by rw [HQ.out]; exact HE.out, by rw [HQ.out]⟩⟩
        simp [results, Tryz.results19, go_sem]
    · have hjn : j = n := by omega
      have HZ := Lib.hid (show its.take j = its by rw [List.take_of_length_le (by omega)])
      have HJ := Lib.hid hjn
      clear hnn hjn
      go_wp2
      refine bodyPost_ret (v := .tuple #[.pointer (some ⟨b, 0, none⟩), .int .i64 0]) ?_ rfl ⟨HBW.out, .inr ⟨by rw [← HZ.out]; exact H0.out, b, 2 * j, L1, rfl, by rw [← HZ.out]; exact HMJ.out, HBJ.out, by have := HBE.out; omega, by rw [← HZ.out]; exact HFJ.out⟩⟩
      simp [results, Tryz.results19, go_sem]
end Trk
end Go.Proofs.YtafkccdbnfelkaaGreatDoor
/- Law 13's TreeOf. -/
namespace Go.Proofs.YtafkccdbnfelkaaGreatDoor
open Go.RowKit Go.MapKept
namespace Trk
open Tre (Nm Th It Its Tg Ths ths tv TrR Apart addT writeT fileT allT goT)

theorem add_len (t : List Th) (p : ByteArray) (d : Bool) : (addT t p d).1.length ≤ t.length + 1 := by
  unfold Tre.addT
  split <;> try (simp; done)
  split <;> try (simp; done)
  split <;> try (simp; done)
  split <;> try (simp; done)
  split <;> simp
theorem set_len (t : List Th) (i : Nat) (s : ByteArray) : (Tre.setT t i s).length = t.length := by
  have := congrArg List.length (setT_names t i s)
  simpa using this
theorem write_len (t : List Th) (p : ByteArray) (a : Int) (b : ByteArray) : (writeT t p a b).1.length = t.length := by
  unfold Tre.writeT
  split <;> try rfl
  split <;> try rfl
  split <;> try rfl
  exact set_len _ _ _
theorem addI_len (t : List Th) (p : ByteArray) (d : Bool) (bs : List Nat) : (addI t p d bs).1.length ≤ t.length + 1 := by
  unfold Trk.addI
  have h1 := add_len t p true
  have h2 := add_len t p false
  split
  · split
    · exact h1
    · split <;> exact h1
  · split
    · exact h2
    · rw [write_len]; exact h2
theorem ofS_len {its : List It} : ∀ j, (ofS (its.take j)).1.length ≤ j
  | 0 => by rw [List.take_zero]; exact Nat.le_refl _
  | j + 1 => by
    by_cases h : j < its.length
    · rw [ofS_take h]
      unfold stp
      have := ofS_len (its := its) j
      split
      · omega
      · have := addI_len (ofS (its.take j)).1 its[j].p its[j].d its[j].b
        omega
    · have := ofS_len (its := its) j
      rw [List.take_of_length_le (by omega), ← List.take_of_length_le (i := j) (l := its) (by omega)]
      omega
/-- what was made a file takes bytes -/
theorem add_file {t : List Th} (hW : Wf t) {p : ByteArray} (h : (addT t p false).2 = 0) : ∃ n i s, IsFile (addT t p false).1 p n i s := by
  cases hs : Pat.spl p with
  | none => rw [Tre.addT_none hs] at h; cases h
  | some n =>
    by_cases h0 : n = []
    · rw [h0] at hs
      rw [Tre.addT_root hs] at h; cases h
    · by_cases hg : goT t (n.take (n.length - 1)) = 0
      · obtain ⟨v, hv⟩ := goT_some hg
        have hd := dirT_T hv
        cases hv1 : v.1 with
        | false => rw [Tre.addT_file hs h0 hg (hd.trans hv1)] at h; cases h
        | true =>
          cases hf : Tre.fi t n with
          | some i => rw [Tre.addT_there hs h0 hg (hd.trans hv1) hf] at h; cases h
          | none =>
            have hw := hW.add p false
            rw [Tre.addT_yes hs h0 hg (hd.trans hv1) hf] at hw ⊢
            have hT : T (t ++ [(n, false, ByteArray.empty)]) n = some (false, ByteArray.empty) := by
              have := T_app (x := (n, false, ByteArray.empty)) h0 hf n
              rw [if_pos rfl] at this
              exact this
            obtain ⟨i, hi⟩ := is_file hs (hw.go hT) hT
            exact ⟨n, i, _, hi⟩
      · rw [Tre.addT_go hs h0 hg] at h; exact absurd h hg
theorem add_write {t : List Th} (hW : Wf t) {p : ByteArray} {b : ByteArray} (h : (addT t p false).2 = 0) (hb : b.size ≤ 1000) : (writeT (addT t p false).1 p 0 b).2 = 0 := by
  obtain ⟨n, i, s, hf⟩ := add_file hW h
  unfold Tre.writeT
  rw [if_neg (fun hh => hh (fileT_file hf).2.2), if_neg (by omega)]
  split <;> rfl

section
variable {P : Program} {ops : Array Oper} {Q : Exit → Act → World → Prop} {md : Region.Mode} {S : World → Prop}
/-- operation i of a region that draws is taken: it yields v into slot d -/
theorem op_yes (i d : Nat) (v : Value) {oi : Oper} {fuel : Nat} {listed : Array Bool} {a : Act} {w : World} (hi : ops[i]? = some oi) (hd : oi.dst = some d)
    (hs : Region.noSelect ops = true) (hf : Region.free md ops listed i = true) (hr : (Region.ready md ops listed).contains i = true)
    (hQ : ∀ c a w, Q (.panic c) (Act.put a (some d) v) w → Q (.panic c) a w) (hw : Region.wanted oi (yielded ops a.tmps) = true) (hy : ∀ w, S w → (execOp a.eval oi).run P w = .ok (.value v) w) (hS : S w)
    (h : wpAnyH P md ops Q S fuel (listed.setIfInBounds i true) (a.put (some d) v) w) : wpAnyH P md ops Q S (fuel + 1) listed a w :=
  wpAnyH_take hi hs hf hr (by rw [hd]; exact hQ) (Or.inl ⟨hw, hy⟩) hS (by rw [hd]; exact h)
/-- operation i of a region that draws is left out: its guard says so -/
theorem op_no (i d : Nat) {oi : Oper} {fuel : Nat} {listed : Array Bool} {a : Act} {w : World} (hi : ops[i]? = some oi) (hd : oi.dst = some d)
    (hs : Region.noSelect ops = true) (hf : Region.free md ops listed i = true) (hr : (Region.ready md ops listed).contains i = true)
    (hQ : ∀ c a w, Q (.panic c) (Act.put a (some d) undef) w → Q (.panic c) a w) (hw : Region.wanted oi (yielded ops a.tmps) = false) (hS : S w)
    (h : wpAnyH P md ops Q S fuel (listed.setIfInBounds i true) (a.put (some d) undef) w) : wpAnyH P md ops Q S (fuel + 1) listed a w :=
  wpAnyH_take hi hs hf hr (by rw [hd]; exact hQ) (Or.inr ⟨hw, rfl⟩) hS (by rw [hd]; exact h)
end

/-- the document's tree in its box -/
structure DS (w : World) (bw : Nat) (t : List Th) (A : Option Addr) (c : Nat) (l : List Tg) : Prop where
  row : Ths w A l
  eq : Tre.ths l = t
  nil : A = none → c = 0
  cap : l.length ≤ c
  apart : Apart bw A l
  lt : bw < w.heap.size
  cell : w.cell? ⟨bw, 0, none⟩ = some (.slice A l.length c)
  fr : w.frozen? ⟨bw, 0, none⟩ = false
theorem DS.keep {w w' : World} {bw : Nat} {t : List Th} {A : Option Addr} {c : Nat} {l : List Tg} (h : DS w bw t A c l) (hb : Below w.heap.size w w') : DS w' bw t A c l :=
  ⟨h.row.keep hb, h.eq, h.nil, h.cap, h.apart, Nat.lt_of_lt_of_le h.lt hb.size, (hb.cell (p := ⟨bw, 0, none⟩) h.lt).trans h.cell, (hb.frozen (p := ⟨bw, 0, none⟩) h.lt).trans h.fr⟩
theorem ds_new (w : World) (ty : TypeId) : DS (w.alloc (.cells #[.slice none 0 0] ty)) w.heap.size [] none 0 [] := by
  have r := World.rowIs_alloc w #[.slice none 0 0] ty (fun _ => .slice none 0 0) (fun j hj => by
    have : j < 1 := hj
    match j, this with
    | 0, _ => rfl)
  exact ⟨⟨by simp, fun g hg => by simp at hg, fun g hg => by simp at hg, fun j hj => by simp at hj⟩, rfl, fun _ => rfl, Nat.le_refl _, ⟨fun a e => (by cases e), fun g hg => (by simp at hg)⟩, by simp, r.cell (by simp), r.frozen 0⟩
/-- behind a call that answers a tree, stored in its box -/
theorem DS.put {w w2 : World} {bw : Nat} {t : List Th} {A : Option Addr} {c : Nat} {l : List Tg} {r : List Th × Int} {A' : Option Addr} {c' : Nat} {l' : List Tg} (h : DS w bw t A c l) (ht : Ths w2 A' l') (hl' : Tre.ths l' = r.1) (hA' : A' = none → c' = 0) (hc' : l'.length ≤ c') (hb : Below w.heap.size w w2) (hap : ∀ b, b < w.heap.size → Apart b A l → Apart b A' l') : DS (w2.setCell ⟨bw, 0, none⟩ (.slice A' l'.length c')) bw r.1 A' c' l' := by
  have ha := hap bw h.lt h.apart
  have hlt := Nat.lt_of_lt_of_le h.lt hb.size
  have hc := (hb.cell (p := ⟨bw, 0, none⟩) h.lt).trans h.cell
  refine ⟨Tre.ths_set ht ha 0 _, hl', hA', hc', ha, by simpa [World.setCell] using hlt, ?_, ?_⟩
  · exact World.cell?_setCell_same _ _ _ hc
  · exact (World.frozen?_setCell _ _ _ _).trans ((hb.frozen (p := ⟨bw, 0, none⟩) h.lt).trans h.fr)

set_option maxRecDepth 100000 in
set_option maxHeartbeats 1000000 in
theorem of_law (w : World) (A : Option Addr) (n c : Nat) (its : List It) (hI : Its w A its) (hn : its.length = n) :
    Calls Tryz.prog 4 #[.slice A n c] w fun e w' => e = .returned (.bool true) ∧ Below w.heap.size w w' := by
  have HI := Lib.hid hI
  have HN := Lib.hid hn
  have HL := Lib.hid (lives_any w)
  have HBY := Lib.hid (show ∀ g ∈ its, Crc.Byt g.b from fun g hg => (hI.ok g hg).2.2.1.byt)
  clear hI hn
  go_enter Tryz.func4, Tryz.ntmps4
  go_wp2_with fail
  refine HL.out.mono ?_
  rintro e w1 ⟨rfl, hb1⟩
  have HB1 := Lib.hid hb1
  clear hb1
  by_cases h30 : n ≤ 30
  · have hh : ((30 : Int) < (n : Int)) = False := by simp; omega
    have HD0 := Lib.hid (ds_new w1 29)
    have HB2 := Lib.hid (HB1.out.alloc HB1.out.size (.cells #[.slice none 0 0] 29))
    go_wp2_with fail
    obtain ⟨bw, hbw⟩ : ∃ bw, bw = w1.heap.size := ⟨_, rfl⟩
    rw [← hbw] at HD0 ⊢
    have HBW := Lib.hid (show w.heap.size ≤ bw by rw [hbw]; exact HB1.out.size)
    clear hbw
    go_loopw [4, 21] (fun x ix wr => ∃ (j : Nat) (A' : Option Addr) (c' : Nat) (l : List Tg), j ≤ n ∧ ix = .int .i64 (j : Int) ∧ x = .int .i64 (ofS (its.take j)).2 ∧ DS wr bw (ofS (its.take j)).1 A' c' l ∧ (∀ g ∈ its.take j, g.p.size ≤ 300 ∧ g.b.length ≤ 300) ∧ Below w.heap.size w wr) (fun _ ix _ => n - (intOf ix).toNat)
    case atStart => exact ⟨0, none, 0, [], Nat.zero_le _, rfl, rfl, HD0.out, fun g hg => by simp at hg, HB2.out⟩
    case round =>
      obtain ⟨j, A', c', l, hj, rfl, rfl, hds, hsm, hbw⟩ := hrel
      have HDS := Lib.hid hds
      have HSM := Lib.hid hsm
      have HBR := Lib.hid hbw
      clear hds hsm
      have hnn := HN.out
      by_cases hlt : j < n
      · have hlti : j < its.length := by omega
        obtain ⟨bi, oi, rfl, hbli, k0, k1, k2⟩ := (HI.out.keep hbw).at' j hlti
        have hbts := HI.out.ok _ (List.getElem_mem hlti)
        have HBT := Lib.hid hbts.2.2.1
        have HST := Lib.hid (ofS_take hlti)
        have HTK := Lib.hid (show ∀ g ∈ its.take (j + 1), g ∈ its.take j ∨ g = its[j] from fun g hg => by
          rw [List.take_succ_eq_append_getElem hlti] at hg
          rcases List.mem_append.1 hg with h | h
          · exact .inl h
          · exact .inr (by simpa using h))
        clear hbts hbw
        generalize its[j] = q at *
        obtain ⟨tp, td, ta, tc0, tb⟩ := q
        simp only at k0 k1 k2 HBT
        obtain ⟨tm, htm⟩ : ∃ m, m = tb.length := ⟨_, rfl⟩
        rw [← htm] at k2
        have HTM := Lib.hid htm
        clear htm
        have hj0 : (j : Int) < (n : Int) := by omega
        have hm0 : (0 : Int) ≤ (j : Int) := by omega
        clear hnn
        have hbA := (Below.refl wr.heap.size wr).alloc (Nat.le_refl _) (.cells #[.string tp, .bool td, .slice ta tm tc0] 49)
        have HBA := Lib.hid (HBR.out.trans (hbA.mono HBR.out.size))
        have HDA := Lib.hid (HDS.out.keep hbA)
        have HBTA := Lib.hid (HBT.out.keep HBA.out)
        have HLEN := Lib.hid (show l.length ≤ 30 by
          have h1 := congrArg List.length HDS.out.eq
          have h2 := ofS_len (its := its) j
          rw [List.length_map] at h1
          omega)
        clear hbA
        by_cases hb3 : tm ≤ 300
        · have e3 : ((300 : Int) < (tm : Int)) = False := by simp; omega
          by_cases hp3 : tp.size ≤ 300
          · have e4 : ((300 : Int) < (tp.size : Int)) = False := by simp; omega
            have HSM2 := Lib.hid (show ∀ g ∈ its.take (j + 1), g.p.size ≤ 300 ∧ g.b.length ≤ 300 from fun g hg => by
              rcases HTK.out g hg with h | rfl
              · exact HSM.out g h
              · exact ⟨hp3, by simp only; rw [← HTM.out]; exact hb3⟩)
            generalize hr0 : ofS (its.take j) = r0 at *
            obtain ⟨t0, e0⟩ := r0
            have HR0 := Lib.hid hr0
            clear hr0
            simp only at HDA HDS
            by_cases he0 : e0 = 0
            · subst he0
              have HST2 := Lib.hid (show ofS (its.take (j + 1)) = addI t0 tp td tb from HST.out.trans (if_neg (fun h => h rfl)))
              have hadd := Tre.add_any _ A' c' l.length l tp td rfl HDA.out.row (by omega) HDA.out.nil HDA.out.cap (by have := HLEN.out; omega)
              rw [HDA.out.eq] at hadd
              have HADD := Lib.hid hadd
              clear hadd
              have hcc := HDA.out.cell
              have HWF := Lib.hid (show Wf t0 from by
                have := ofS_wf HBY.out j
                rw [HR0.out] at this
                exact this)
              go_wp2_with fail
              refine HADD.out.mono ?_
              rintro e w2 ⟨A2, c2, l2, rfl, ht2, hl2, hA2, hc2, hb2, hap2⟩
              have HDP := Lib.hid (HDA.out.put ht2 hl2 hA2 hc2 hb2 hap2)
              have hbz := (Below.refl (w2.setCell ⟨bw, 0, none⟩ (.slice A2 l2.length c2)).heap.size (w2.setCell ⟨bw, 0, none⟩ (.slice A2 l2.length c2))).alloc (Nat.le_refl _) (.cells #[.slice A2 l2.length c2] 29)
              have HD3 := Lib.hid (HDP.out.keep hbz)
              have hb12 := HBA.out.trans (hb2.mono HBA.out.size)
              have hb13 := hb12.setCell (p := ⟨bw, 0, none⟩) HBW.out (.slice A2 l2.length c2)
              have HB3 := Lib.hid (hb13.alloc hb13.size (.cells #[.slice A2 l2.length c2] 29))
              have hlw := Nat.lt_of_lt_of_le HDA.out.lt hb2.size
              have hcw : w2.cell? ⟨bw, 0, none⟩ = some (.slice A' l.length c') := (hb2.cell (p := ⟨bw, 0, none⟩) HDA.out.lt).trans HDA.out.cell
              have hfw : w2.frozen? ⟨bw, 0, none⟩ = false := (hb2.frozen (p := ⟨bw, 0, none⟩) HDA.out.lt).trans HDA.out.fr
              have hnw : bw ≠ wr.heap.size := by have := HDS.out.lt; omega
              have hlx : wr.heap.size < w2.heap.size := by have := hb2.size; simp at this; omega
              have hk2 : ∀ o v, (wr.alloc (.cells #[.string tp, .bool td, .slice ta tm tc0] 49)).cell? ⟨wr.heap.size, o, none⟩ = some v → ((w2.setCell ⟨bw, 0, none⟩ (.slice A2 l2.length c2)).alloc (.cells #[.slice A2 l2.length c2] 29)).cell? ⟨wr.heap.size, o, none⟩ = some v := fun o v hv => by
                rw [World.cell?_alloc_old _ _ _ (by simp [World.setCell]; omega), World.cell?_setCell_other _ _ _ _ (by intro e; injection e with e; exact hnw e)]
                exact (hb2.cell (p := ⟨wr.heap.size, o, none⟩) (by simp)).trans hv
              have HK0 := Lib.hid (hk2 0 _ (Crc.alloc_cell wr _ _ 0))
              have HK1 := Lib.hid (hk2 1 _ (Crc.alloc_cell wr _ _ 1))
              have HK2 := Lib.hid (hk2 2 _ (Crc.alloc_cell wr _ _ 2))
              clear hk2 hb12 hb13 hbz ht2 hA2 hc2 hb2 hap2
              have hcv := Crc.conv_str tc0 (HBT.out.keep HB3.out)
              rw [← HTM.out] at hcv
              have HCV := Lib.hid hcv
              clear hcv
              go_upto_region 13 with fail
              generalize (w2.setCell ⟨bw, 0, none⟩ (.slice A2 l2.length c2)).alloc (.cells #[.slice A2 l2.length c2] 29) = w3 at *
              clear hcw hfw hlw hlx
              have hk0 := HK0.out
              have hk1 := HK1.out
              have hk2 := HK2.out
              have hcv := HCV.out
              have hc3 := HD3.out.cell
              have hf3 := HD3.out.fr
              have hl3 := HD3.out.lt
              by_cases he : (addT t0 tp td).2 = 0
              · cases td with
                | true =>
                  by_cases hz : 0 < tm
                  · have HST3 := Lib.hid (show ofS (its.take (j + 1)) = ((addT t0 tp true).1, 9) from HST2.out.trans (by unfold Trk.addI; rw [if_pos rfl, if_neg (fun h => h he), if_pos (by rw [← HTM.out]; exact hz)]))
                    rw [he]
                    have hz' : ((0 : Int) < (tm : Int)) = True := by simp; omega
                    go_wp2
                    exact ⟨⟨j + 1, A2, c2, l2, by omega, by go_num, by rw [HST3.out], by rw [HST3.out]; exact HD3.out, HSM2.out, HB3.out⟩, by simp [intOf]; omega⟩
                  · have HST3 := Lib.hid (show ofS (its.take (j + 1)) = ((addT t0 tp true).1, 0) from HST2.out.trans (by unfold Trk.addI; rw [if_pos rfl, if_neg (fun h => h he), if_neg (by rw [← HTM.out]; exact hz)]))
                    rw [he]
                    have hz' : ((0 : Int) < (tm : Int)) = False := by simp; omega
                    go_wp2
                    exact ⟨⟨j + 1, A2, c2, l2, by omega, by go_num, by rw [HST3.out], by rw [HST3.out]; exact HD3.out, HSM2.out, HB3.out⟩, by simp [intOf]; omega⟩
                | false =>
                  have hwr := add_write HWF.out he (b := Crc.str tb) (by rw [Crc.str_size, ← HTM.out]; omega)
                  have HST3 := Lib.hid (show ofS (its.take (j + 1)) = ((writeT (addT t0 tp false).1 tp 0 (Crc.str tb)).1, 0) from HST2.out.trans (by
                    unfold Trk.addI
                    rw [if_neg (by decide), if_neg (fun h => h he)]
                    exact Prod.ext rfl hwr))
                  have hwq := Tre.write_any w3 A2 c2 l2.length l2 tp 0 (Crc.str tb) rfl HD3.out.row (by omega) HD3.out.nil HD3.out.cap (by rw [Crc.str_size, ← HTM.out]; omega) (fun g hg => by
                    have h1 : g.2.2 ∈ (addT t0 tp false).1 := by rw [← HD3.out.eq]; exact List.mem_map.2 ⟨g, hg, rfl⟩
                    have := (HWF.out.add tp false).size _ h1
                    omega)
                  rw [HD3.out.eq] at hwq
                  have HWQ := Lib.hid hwq
                  clear hwq hwr
                  rw [he]
                  go_wp2_with fail
                  refine HWQ.out.mono ?_
                  rintro e w4 ⟨A4, c4, l4, rfl, ht4, hl4, hA4, hc4, hb4, hap4⟩
                  have HD4 := Lib.hid (HD3.out.put ht4 hl4 hA4 hc4 hb4 hap4)
                  have HB4 := Lib.hid ((HB3.out.trans (hb4.mono HB3.out.size)).setCell (p := ⟨bw, 0, none⟩) HBW.out (.slice A4 l4.length c4))
                  have hl4' := Nat.lt_of_lt_of_le HD3.out.lt hb4.size
                  have hcw : w4.cell? ⟨bw, 0, none⟩ = some (.slice A2 l2.length c2) := (hb4.cell (p := ⟨bw, 0, none⟩) HD3.out.lt).trans HD3.out.cell
                  have hfw : w4.frozen? ⟨bw, 0, none⟩ = false := (hb4.frozen (p := ⟨bw, 0, none⟩) HD3.out.lt).trans HD3.out.fr
                  clear ht4 hl4 hA4 hc4 hb4 hap4
                  go_wp2
                  exact ⟨⟨j + 1, A4, c4, l4, by omega, by go_num, by rw [HST3.out], by rw [HST3.out]; exact HD4.out, HSM2.out, HB4.out⟩, by simp [intOf]; omega⟩
              · have HST3 := Lib.hid (show ofS (its.take (j + 1)) = addT t0 tp td from HST2.out.trans (by
                  unfold Trk.addI
                  cases td with
                  | true => rw [if_pos rfl, if_pos he]
                  | false => rw [if_neg (by decide), if_pos he]))
                generalize addT t0 tp td = r1 at *
                obtain ⟨t1, e1⟩ := r1
                simp only at he HD3
                have hne : (e1 != 0) = true := bne_iff_ne.2 he
                go_wp2
                all_goals try (rename_i hx; exact absurd (hx.symm.trans hne) (by decide))
                exact ⟨⟨j + 1, A2, c2, l2, by omega, by go_num, by rw [HST3.out], by rw [HST3.out]; exact HD3.out, HSM2.out, HB3.out⟩, by simp [intOf]; omega⟩
            · have HST2 := Lib.hid (show ofS (its.take (j + 1)) = (t0, e0) from HST.out.trans (if_pos he0))
              have hne : (e0 != 0) = true := bne_iff_ne.2 he0
              go_wp2
              refine ⟨⟨j + 1, A', c', l, by omega, by go_num, by rw [HST2.out], by rw [HST2.out]; exact HDA.out, HSM2.out, HBA.out⟩, by simp [intOf]; omega⟩
          · have e4 : ((300 : Int) < (tp.size : Int)) = True := by simp; omega
            go_wp2
            go_ret
            exact ⟨rfl, HBA.out⟩
        · have e3 : ((300 : Int) < (tm : Int)) = True := by simp; omega
          go_wp2
          go_ret
          exact ⟨rfl, HBA.out⟩
      · have hjn : j = n := by omega
        have HZ := Lib.hid (show its.take j = its by rw [List.take_of_length_le (by omega)])
        have HJ := Lib.hid hjn
        clear hnn hjn
        rw [HZ.out] at HDS HSM ⊢
        have HFI := Lib.hid (show Fit its from ⟨by have := HN.out; omega, fun g hg => by have := HSM.out g hg; omega⟩)
        have HOF := Lib.hid (of_any wr A n c its (HI.out.keep hbw) HFI.out HN.out)
        have HWF := Lib.hid (show Wf (ofS its).1 from by
          have := ofS_wf HBY.out j
          rw [HZ.out] at this
          exact this)
        have HLN := Lib.hid (show (ofS its).1.length ≤ 30 by
          have := ofS_len (its := its) j
          rw [HZ.out] at this
          omega)
        clear hbw
        generalize ofS its = r at *
        obtain ⟨t, e0⟩ := r
        simp only at HDS HOF HWF HLN
        go_wp2_with fail
        refine HOF.out.mono ?_
        rintro e w2 ⟨hb2, ⟨he, rfl⟩ | ⟨rfl, b, N, L, rfl, hm, hLb, hwb, hF⟩⟩
        · have hne : (e0 != 0) = true := bne_iff_ne.2 he
          have HBZ := Lib.hid (HBR.out.trans (hb2.mono HBR.out.size))
          go_wp2_with fail
          refine wp_region_held_drew (S := fun _ => True) (by kernel_rfl) ?_ (fun hHeld => ?_)
          · exact trivial
          refine op_yes 0 90 (.pointer none) rfl rfl (by kernel_rfl) (by kernel_rfl) (by kernel_rfl) (fun _ _ _ h => h) rfl ?_ (by assumption) ?_
          · intro w hSw
            go_simp
          simp only [Act.put, List.setIfInBounds_toArray, List.set_cons_zero, List.set_cons_succ]
          refine op_yes 1 91 (.bool true) rfl rfl (by kernel_rfl) (by kernel_rfl) (by kernel_rfl) (fun _ _ _ h => h) rfl ?_ (by assumption) ?_
          · intro w hSw
            go_simp
          simp only [Act.put, List.setIfInBounds_toArray, List.set_cons_zero, List.set_cons_succ]
          refine op_yes 2 92 (.bool true) rfl rfl (by kernel_rfl) (by kernel_rfl) (by kernel_rfl) (fun _ _ _ h => h) rfl ?_ (by assumption) ?_
          · intro w hSw
            go_simp
          simp only [Act.put, List.setIfInBounds_toArray, List.set_cons_zero, List.set_cons_succ]
          refine op_no 3 93 rfl rfl (by kernel_rfl) (by kernel_rfl) (by kernel_rfl) (fun _ _ _ h => h) rfl (by assumption) ?_
          simp only [Act.put, List.setIfInBounds_toArray, List.set_cons_zero, List.set_cons_succ]
          refine op_no 4 94 rfl rfl (by kernel_rfl) (by kernel_rfl) (by kernel_rfl) (fun _ _ _ h => h) rfl (by assumption) ?_
          simp only [Act.put, List.setIfInBounds_toArray, List.set_cons_zero, List.set_cons_succ]
          refine op_no 5 95 rfl rfl (by kernel_rfl) (by kernel_rfl) (by kernel_rfl) (fun _ _ _ h => h) rfl (by assumption) ?_
          simp only [Act.put, List.setIfInBounds_toArray, List.set_cons_zero, List.set_cons_succ]
          refine op_no 6 96 rfl rfl (by kernel_rfl) (by kernel_rfl) (by kernel_rfl) (fun _ _ _ h => h) rfl (by assumption) ?_
          simp only [Act.put, List.setIfInBounds_toArray, List.set_cons_zero, List.set_cons_succ]
          refine op_yes 7 97 (.bool true) rfl rfl (by kernel_rfl) (by kernel_rfl) (by kernel_rfl) (fun _ _ _ h => h) rfl ?_ (by assumption) ?_
          · intro w hSw
            go_simp
          simp only [Act.put, List.setIfInBounds_toArray, List.set_cons_zero, List.set_cons_succ]
          refine op_yes 8 2 (.bool true) rfl rfl (by kernel_rfl) (by kernel_rfl) (by kernel_rfl) (fun _ _ _ h => h) rfl ?_ (by assumption) ?_
          · intro w hSw
            go_simp
          simp only [Act.put, List.setIfInBounds_toArray, List.set_cons_zero, List.set_cons_succ]
          refine wpAnyH_done (by kernel_rfl) ?_ _
          go_wp2
          go_ret
          exact ⟨rfl, HBZ.out.drew⟩
        · have HBZ := Lib.hid (HBR.out.trans (hb2.mono HBR.out.size))
          have HD2 := Lib.hid (HDS.out.keep hb2)
          have hdr : Below w2.heap.size w2 w2.drew := Tre.below_drew (Below.refl _ _)
          have HALL := Lib.hid (all_any w2.drew N b t L (hm.keep hdr) hLb HWF.out (by have := HLN.out; omega))
          have HD3 := Lib.hid (HD2.out.keep hdr)
          have HSTEP := Lib.hid (fun (w5 : World) (A5 : Option Addr) (c5 : Nat) (its5 : List It) (hI5 : Its w5 A5 its5) (ht5 : tells its5 = told (allT t)) (hb5 : Below w2.drew.heap.size w2.drew w5) => show w5.cell? ⟨bw, 0, none⟩ = some (.slice A' l.length c') ∧ (Calls Tryz.prog 12 #[.slice A5 its5.length c5, tv A' l.length c'] w5 fun e w' => e = .returned (.bool true) ∧ w'.cell? ⟨bw, 0, none⟩ = some (.slice A' l.length c') ∧ Below w.heap.size w w') from
            have h5 := HD3.out.keep hb5
            have hb50 := (HBZ.out.trans (hdr.mono HBZ.out.size)).trans (hb5.mono (by have := HBZ.out.size; simpa using this))
            ⟨h5.cell, (Tre.lawSame_yes w5 A5 A' c5 c' l.length its5 l rfl h5.row hI5 (by have := h5.row.len; have h6 := congrArg List.length h5.eq; rw [List.length_map] at h6; have := HLN.out; omega) (by rw [h5.eq]; exact tells_sm ht5)).mono (by
              rintro e w6 ⟨rfl, hb6⟩
              exact ⟨rfl, (h5.keep hb6).cell, hb50.trans (hb6.mono hb50.size)⟩)⟩)
          have hcw : w2.cell? ⟨bw, 0, none⟩ = some (.slice A' l.length c') := HD2.out.cell
          clear hm hdr hF
          go_wp2_with fail
          go_region_held3 (fun W' => W'.cell? ⟨bw, 0, none⟩ = some (.slice A' l.length c')) (go_keep)
            (first
            | (go_at_call 13
               with_reducible refine HALL.out.mono ?_
               rintro e w5 ⟨A5, c5, its5, rfl, hI5, ht5, _, hb5⟩
               obtain ⟨hcw5, hsame⟩ := HSTEP.out w5 A5 c5 its5 hI5 ht5 hb5
               clear hI5 ht5 hb5)
            | (go_at_call 12
               with_reducible refine Calls.mono (by assumption) ?_
               rintro e w6 ⟨rfl, hcw6, hb6⟩
               have HB6 := Lib.hid hb6
               clear hb6))
          go_wp2
          go_ret
          exact ⟨rfl, Hid.out (by assumption)⟩
  · have hh : ((30 : Int) < (n : Int)) = True := by simp; omega
    go_wp2_with fail
    refine (lives_any w1).mono ?_
    rintro e w2 ⟨rfl, hb2⟩
    have HB2 := Lib.hid (HB1.out.trans (hb2.mono HB1.out.size))
    clear hb2
    go_wp2
    go_ret
    exact ⟨rfl, HB2.out⟩
end Trk
end Go.Proofs.YtafkccdbnfelkaaGreatDoor
/- The laws' arguments, as they are read, opened to lists. -/
namespace Go.Proofs.YtafkccdbnfelkaaGreatDoor
open Go.RowKit Go.MapKept Go.ChangeShapes Go.WideShapes Go.Deep
namespace Crc
section
variable {H : Type} {enc : TypeId × Value → H} {W : World} {fuel : Nat} {sp : Nat → Bool} {held : Bool}

theorem cells_u8 : Tryz.prog.cellsOf 5 = 1 := by kernel_rfl
theorem cells_u64 : Tryz.prog.cellsOf 170 = 1 := by kernel_rfl
theorem cells_sl : Tryz.prog.cellsOf 30 = 1 := by kernel_rfl

theorem u8_bounds {k : Int} (h : (Lit.int .u8 k).wf = true) : 0 ≤ k ∧ k < 256 := by
  have := bounds_u8 h
  omega
theorem u64_bounds {k : Int} (h : (Lit.int .u64 k).wf = true) : 0 ≤ k ∧ k < 18446744073709551616 := by
  have := bounds_u64 h
  omega

theorem cell_lt {b o : Nat} {v : Value} (h : W.cell? ⟨b, o, none⟩ = some v) : b < W.heap.size := by
  rcases Nat.lt_or_ge b W.heap.size with h1 | h1
  · exact h1
  · simp [World.cell?, Array.getElem?_eq_none h1] at h

/-- a slice whose elements take one cell each -/
theorem open_ones {t e : TypeId} {v : Value} {x : DataW H × List MemPlace} {α : Type} (d : α) (R : α → Value → Prop) (ht : Tryz.prog.underlying t = some (.slice e)) (h1 : Tryz.prog.cellsOf e = 1)
    (hR : ∀ n u y, DataW.trod enc Tryz.prog W 0 sp held n e [u] = some y → ∃ a, R a u)
    (h : DataW.trod enc Tryz.prog W 0 sp held fuel t [v] = some x) :
    ∃ (A : Option Addr) (l : List α) (c : Nat), v = .slice A l.length c ∧ l.length ≤ c ∧ l.length ≤ 9223372036854775807 ∧ ∀ j (hj : j < l.length), ∃ b o u, A = some ⟨b, o, none⟩ ∧ b < W.heap.size ∧ W.cell? ⟨b, o + j, none⟩ = some u ∧ R l[j] u := by
  rcases open_slice1 ht h1 h with ⟨hcs, _⟩ | ⟨a, len, cap, m, n, V, D, Pl, hcs, _, hl, hm, hmm, _, hi⟩
  · simp at hcs
    exact ⟨none, [], 0, hcs, by simp, by simp, fun j hj => absurd hj (by simp)⟩
  · simp at hcs
    have hlen : len ≤ 9223372036854775807 := by unfold maxLen at hm; omega
    have hjm : ∀ i, i < len → i < m := fun i hi => by rw [hmm]; split <;> omega
    have one : ∀ i, ∃ a' : α, i < len → R a' (V i) := fun i => by
      by_cases hil : i < len
      · obtain ⟨a', ha⟩ := hR _ _ _ (hi i (hjm i hil)).2
        exact ⟨a', fun _ => ha⟩
      · exact ⟨d, fun h => absurd h hil⟩
    obtain ⟨f, hf⟩ := Classical.skolem.1 one
    refine ⟨some a, (List.range len).map f, cap, by rw [List.length_map, List.length_range]; exact hcs, by rw [List.length_map, List.length_range]; exact hl, by rw [List.length_map, List.length_range]; exact hlen, fun j hj => ?_⟩
    rw [List.length_map, List.length_range] at hj
    have hc0 := (hi 0 (hjm 0 (by omega))).1
    obtain ⟨b, o, spot⟩ := a
    have hspot : spot = none := by simpa [Addr.add] using World.cell?_spot hc0
    subst hspot
    have hc := (hi j (hjm j hj)).1
    rw [add_plain] at hc
    refine ⟨b, o, V j, rfl, cell_lt hc, hc, ?_⟩
    rw [List.getElem_map, List.getElem_range]
    exact hf j hj

theorem open_bytes {v : Value} {x : DataW H × List MemPlace} (h : DataW.trod enc Tryz.prog W 0 sp held fuel 30 [v] = some x) : ∃ A l c, v = .slice A l.length c ∧ l.length ≤ c ∧ Bts W A l := by
  obtain ⟨A, l, c, e, hc, hl, ha⟩ := open_ones (α := Nat) 0 (fun k u => u = .int .u8 (k : Int) ∧ k < 256) Tryz.underlying30 cells_u8 (fun n u y hu => by
    obtain ⟨k, e, _, hw⟩ := DataW.trod_int Tryz.underlying5 hu
    simp at e
    have hb := u8_bounds hw
    obtain ⟨q, rfl⟩ := Int.eq_ofNat_of_zero_le hb.1
    exact ⟨q, e, by omega⟩) h
  refine ⟨A, l, c, e, hc, fun b hb => ?_, hl, fun j hj => ?_⟩
  · obtain ⟨j, hj, rfl⟩ := List.getElem_of_mem hb
    obtain ⟨_, _, _, _, _, _, _, h2⟩ := ha j hj
    exact h2
  · obtain ⟨b, o, u, e, h1, h2, rfl, _⟩ := ha j hj
    exact ⟨b, o, e, h1, h2⟩

theorem open_parts {v : Value} {x : DataW H × List MemPlace} (h : DataW.trod enc Tryz.prog W 0 sp held fuel 148 [v] = some x) : ∃ A ps c, v = .slice A ps.length c ∧ Pts W A ps := by
  obtain ⟨A, ps, c, e, hc, hl, ha⟩ := open_ones (α := Prt) ⟨none, 0, []⟩ (fun q u => u = .slice q.a q.l.length q.c ∧ Bts W q.a q.l) Tryz.underlying148 cells_sl (fun n u y hu => by
    obtain ⟨B, l, c, e, _, hb⟩ := open_bytes hu
    exact ⟨⟨B, c, l⟩, e, hb⟩) h
  refine ⟨A, ps, c, e, hl, fun j hj => ?_, fun j hj => ?_⟩
  · obtain ⟨b, o, u, e, h1, h2, rfl, _⟩ := ha j hj
    exact ⟨b, o, e, h1, h2⟩
  · obtain ⟨_, _, _, _, _, _, _, h2⟩ := ha j hj
    exact h2
end
end Crc

theorem laidOut_try : laidOutB Tryz.prog = true := by kernel_rfl
theorem ownKnob_none : ownKnob Tryz.prog.godebug = none := by kernel_rfl
end Go.Proofs.YtafkccdbnfelkaaGreatDoor
/- The laws' arguments, as they are read, opened to cells: items. -/
namespace Go.Proofs.YtafkccdbnfelkaaGreatDoor
open Go.RowKit Go.MapKept Go.ChangeShapes Go.WideShapes Go.ChangeAt Go.Deep
namespace Trk
open Tre (It Its)
section
variable {H : Type} {enc : TypeId × Value → H} {W : World} {fuel : Nat} {sp : Nat → Bool} {held : Bool}
theorem open_bytes0 {v : Value} {x : DataW H × List MemPlace} (h : DataW.trod enc Tryz.prog W 0 sp held fuel 30 [v] = some x) : ∃ A l c, v = .slice A l.length c ∧ l.length ≤ c ∧ Crc.Bts W A l ∧ (A = none → c = 0) := by
  obtain ⟨A, l, c, e, hc, hb⟩ := Crc.open_bytes h
  refine ⟨A, l, c, e, hc, hb, ?_⟩
  rintro rfl
  subst e
  rcases Go.Deep.open_slice1 Tryz.underlying30 (by kernel_rfl) h with ⟨hcs, _⟩ | ⟨a, len, cap, m, n, V, D, Pl, hcs, _⟩
  · simp at hcs
    omega
  · simp at hcs
theorem cells_item : Tryz.prog.cellsOf 49 = 3 := by kernel_rfl
set_option maxRecDepth 100000 in
/-- an item's three cells -/
theorem open_item {cs : List Value} {x : DataW H × List MemPlace} (h : DataW.trod enc Tryz.prog W 0 sp held fuel 49 cs = some x) :
    ∃ g : It, cs = [.string g.p, .bool g.d, .slice g.a g.b.length g.c] ∧ g.p.size ≤ 9223372036854775807 ∧ g.b.length ≤ g.c ∧ Crc.Bts W g.a g.b ∧ (g.a = none → g.c = 0) := by
  obtain ⟨ys, n, _, _, hlen, hyl, hf⟩ := DataW.trod_struct Tryz.underlying49 h
  rw [cells_item] at hlen
  match cs, hlen with
  | [c0, c1, c2], _ =>
    have g0 : DataW.trod enc Tryz.prog W 0 sp held n 9 [c0] = ys[0]? := hf 0 _ rfl
    have g1 : DataW.trod enc Tryz.prog W 0 sp held n 4 [c1] = ys[1]? := hf 1 _ rfl
    have g2 : DataW.trod enc Tryz.prog W 0 sp held n 30 [c2] = ys[2]? := hf 2 _ rfl
    have hy : ys.length = 3 := hyl
    rw [List.getElem?_eq_getElem (by omega)] at g0 g1 g2
    obtain ⟨s, e0, _, w0⟩ := DataW.trod_string Tryz.underlying9 g0
    obtain ⟨d, e1, _⟩ := DataW.trod_bool Tryz.underlying4 g1
    obtain ⟨A, l, c, e2, h1, h2, h3⟩ := open_bytes0 g2
    simp at e0 e1
    subst e0 e1 e2
    exact ⟨⟨s, d, A, c, l⟩, rfl, by unfold maxLen at w0; show s.size ≤ _; omega, h1, h2, h3⟩

set_option maxRecDepth 100000 in
theorem open_items {v : Value} {x : DataW H × List MemPlace} (h : DataW.trod enc Tryz.prog W 0 sp held fuel 41 [v] = some x) : ∃ A l c, v = .slice A l.length c ∧ Its W A l := by
  rcases Go.Deep.open_slice Tryz.underlying41 h with ⟨hcs, _⟩ | ⟨a, len, cap, m, n, D, Pl, hcs, _, hl, hm, hmm, hx, hi⟩
  · simp at hcs
    exact ⟨none, [], 0, hcs, by simp, fun f hf => by simp at hf, fun j hj => absurd hj (by simp)⟩
  · simp at hcs
    have hlen : len ≤ 9223372036854775807 := by unfold maxLen at hm; omega
    have hjm : ∀ i, i < len → i < m := fun i hi => by rw [hmm]; split <;> omega
    have one : ∀ i, ∃ g : It, i < len → ((W.cell? (a.add (i * 3)) = some (.string g.p) ∧ W.cell? ((a.add (i * 3)).add 1) = some (.bool g.d) ∧ W.cell? ((a.add (i * 3)).add 2) = some (.slice g.a g.b.length g.c)) ∧ (g.p.size ≤ 9223372036854775807 ∧ g.b.length ≤ g.c ∧ Crc.Bts W g.a g.b ∧ (g.a = none → g.c = 0))) := fun i => by
      by_cases hil : i < len
      · obtain ⟨cs', hc, ht⟩ := hi i (hjm i hil)
        rw [cells_item] at hc
        obtain ⟨f, rfl, h1⟩ := open_item ht
        obtain ⟨_, _, hat⟩ := World.cells?_some hc
        have g0 := hat 0 (by omega)
        have g1 := hat 1 (by omega)
        have g2 := hat 2 (by omega)
        simp only [List.getElem?_cons_zero, List.getElem?_cons_succ] at g0 g1 g2
        refine ⟨f, fun _ => ⟨⟨?_, g1, g2⟩, h1⟩⟩
        simpa [Addr.add] using g0
      · exact ⟨⟨⟨#[]⟩, false, none, 0, []⟩, fun h => absurd h hil⟩
    obtain ⟨f, hf⟩ := Classical.skolem.1 one
    have hget : ∀ j (hj : j < ((List.range len).map f).length), ((List.range len).map f)[j] = f j := fun j hj => by rw [List.getElem_map, List.getElem_range]
    refine ⟨some a, (List.range len).map f, cap, by rw [List.length_map, List.length_range]; exact hcs, by rw [List.length_map, List.length_range]; exact hlen, fun g hg => ?_, fun j hj => ?_⟩
    · obtain ⟨i, hi, rfl⟩ := List.mem_map.1 hg
      exact (hf i (List.mem_range.1 hi)).2
    · rw [hget j hj]
      rw [List.length_map, List.length_range] at hj
      have hc0 := (hf 0 (by omega)).1.1
      obtain ⟨b, o, spot⟩ := a
      have hspot : spot = none := by simpa [Addr.add] using World.cell?_spot hc0
      subst hspot
      obtain ⟨g0, g1, g2⟩ := (hf j hj).1
      simp only [Go.WideShapes.add_plain] at g0 g1 g2
      exact ⟨b, o, rfl, Crc.cell_lt g0, g0, g1, g2⟩
end
end Trk
end Go.Proofs.YtafkccdbnfelkaaGreatDoor
/- A start that meets the rows' condition: the library's tables unicode/utf8.first and acceptRanges as they are laid; arguments that are names. -/
namespace Go.Proofs.YtafkccdbnfelkaaGreatDoor
open Go.RowKit Go.MapKept Go.ChangeShapes Go.WideShapes Go.ChangeAt Go.Deep

abbrev lst : List (String × DataW Unit) := [("unicode/utf8.acceptRanges", Rows.laid_unicode_utf8_acceptRanges), ("unicode/utf8.first", Rows.laid_unicode_utf8_first)]

/-- a start with both tables meets the condition -/
theorem door_met (os : Os) (args : Array Value) : laidMetH Tryz.prog lst ((World.laidAll Tryz.prog os lst).forCall (fun _ _ => 0) ⟨#[], args, []⟩).memory := by
  rw [MakeChecks.laidMetH_plain _ _ _ (by kernel_rfl)]
  exact laidMet_laidAll _ (by kernel_rfl) (by kernel_rfl)

namespace Pat
section
variable {H : Type} {enc : TypeId × Value → H} {W : World} {fuel : Nat} {sp : Nat → Bool} {held : Bool}
theorem open_strs {v : Value} {x : DataW H × List MemPlace} (h : DataW.trod enc Tryz.prog W 0 sp held fuel 33 [v] = some x) : ∃ A l c, v = .slice A l.length c ∧ Txs W A l ∧ l.length ≤ c ∧ (A = none → c = 0) := by
  obtain ⟨A, l, c, e, hc, hl, ha⟩ := Crc.open_ones (α := ByteArray) ByteArray.empty (fun s u => u = .string s ∧ s.size ≤ 9223372036854775807) Tryz.underlying33 (by kernel_rfl) (fun n u y hu => by
    obtain ⟨s, e, _, hw⟩ := DataW.trod_string Tryz.underlying9 hu
    simp at e
    exact ⟨s, e, by unfold maxLen at hw; omega⟩) h
  refine ⟨A, l, c, e, ⟨fun s hs => ?_, hl, fun j hj => ?_⟩, hc, ?_⟩
  · obtain ⟨j, hj, rfl⟩ := List.getElem_of_mem hs
    obtain ⟨_, _, _, _, _, _, _, h2⟩ := ha j hj
    exact h2
  · obtain ⟨b, o, u, e, h1, h2, rfl, _⟩ := ha j hj
    exact ⟨b, o, e, h1, h2⟩
  · rintro rfl
    subst e
    rcases Go.Deep.open_slice1 Tryz.underlying33 (by kernel_rfl) h with ⟨hcs, _⟩ | ⟨a, len, cap, m, n, V, D, Pl, hcs, _⟩
    · simp at hcs
      omega
    · simp at hcs
end
end Pat
end Go.Proofs.YtafkccdbnfelkaaGreatDoor
