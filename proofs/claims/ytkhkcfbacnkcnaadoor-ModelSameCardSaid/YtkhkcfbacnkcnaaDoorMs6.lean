/- Texts laid together: ModMem, ModRun, ModLives, ModSameLaw, CrcArgs, PatCard, TrkArgs. -/
import Derived.Test.YtkhkcfbacnkcnaaDoorMs5
import Derived.Test.YtkhkcfbacnkcnaaDoorMs2
import Derived.Deep.CutRange
import Derived.Test.YtkhkcfbacnkcnaaDoorMs1
import Derived.Deep.Slices
import Derived.OpenShut
import Derived.ChangeOld
import Derived.Test.YtkhkcfbacnkcnaaDoorTie
import Derived.Test.YtkhkcfbacnkcnaaDoorCards
import Derived.ProofKit
import Derived.Lay
import Derived.LaidMore
import Derived.LaidOnce
import Derived.Stop.Joined
import Derived.ChangeMaps5
import Derived.Test.YtkhkcfbacnkcnaaDoorMs4
import Derived.Test.YtkhkcfbacnkcnaaDoorMs3
/- Answers in a row of the call's own, beside a tree; deeds as they lie. -/
namespace Go.Proofs.YtkhkcfbacnkcnaaDoor
open Go.RowKit Go.MapKept
namespace Mod
open Tre (Nm Th doT)
open Trk (Mem Nd Wf Fp Chg TrkN TrkR Gb row_blk row_same)
open Pat (Txs)

/-- an answer's three cells -/
abbrev yc (y : An) : List Value := [.int .i64 y.e, .slice y.a y.d.length y.c, .slice y.g y.n.length y.k]
def ycells (l : List An) : List Value := l.flatMap yc
theorem ycells_app (l m : List An) : ycells (l ++ m) = ycells l ++ ycells m := by
  unfold ycells
  rw [List.flatMap_append]
theorem ycells_len (l : List An) : (ycells l).length = l.length * 3 := by
  induction l with
  | nil => rfl
  | cons f l ih => simp only [ycells, List.flatMap_cons, List.length_append, List.length_cons, List.length_nil] at *; omega
theorem ycells_get {l : List An} : ∀ {j : Nat} (h : j < l.length), (ycells l)[j * 3]? = some (.int .i64 l[j].e) ∧ (ycells l)[j * 3 + 1]? = some (.slice l[j].a l[j].d.length l[j].c) ∧ (ycells l)[j * 3 + 2]? = some (.slice l[j].g l[j].n.length l[j].k) := by
  induction l with
  | nil => intro j h; simp at h
  | cons f l ih =>
    intro j h
    cases j with
    | zero => exact ⟨rfl, rfl, rfl⟩
    | succ j =>
      have := ih (j := j) (by simpa using h)
      have e : (j + 1) * 3 = j * 3 + 1 + 1 + 1 := by omega
      rw [e]
      simpa [ycells] using this
/-- answers, apart from the blocks F -/
structure Anss (w : World) (B : Nat) (v : Value) (ys : List An) (F : Nat → Prop) : Prop where
  row : w.ownsRow B 26 3 v ys.length (ycells ys)
  ok : ∀ y ∈ ys, AnOk w y
  low : ∀ y ∈ ys, ∀ i, Gb y.a i ∨ Gb y.g i → i < w.heap.size ∧ ¬ F i ∧ v.ownBlock ≠ some i
  rowf : ∀ k, v.ownBlock = some k → ¬ F k
theorem AnOk.chg {w w' : World} {F : Nat → Prop} {y : An} (h : AnOk w y) (hc : Chg F w w') (hg : ∀ i, Gb y.a i ∨ Gb y.g i → ¬ F i) : AnOk w' y :=
  ⟨Trk.bts_chg h.bts hc (fun ad e _ => hg _ (.inl ⟨ad, e, rfl⟩)), Trk.txs_chg h.txs hc (fun ad e _ => hg _ (.inr ⟨ad, e, rfl⟩))⟩
/-- where blocks F are changed, and new ones come to them -/
theorem Anss.step {w w' : World} {B : Nat} {v : Value} {ys : List An} {F F' : Nat → Prop} (h : Anss w B v ys F) (hc : Chg F w w') (hF : ∀ i, F' i → F i ∨ w.heap.size ≤ i) : Anss w' B v ys F' :=
  ⟨Trk.own_chg h.row hc (fun g hg => h.rowf g hg), fun y hy => (h.ok y hy).chg hc (fun i hi => (h.low y hy i hi).2.1), fun y hy i hi => by
    obtain ⟨h1, h2, h3⟩ := h.low y hy i hi
    exact ⟨Nat.lt_of_lt_of_le h1 hc.size, fun hf => (hF i hf).elim h2 (fun e => by omega), h3⟩, fun k hk hf => (hF k hf).elim (h.rowf k hk) (fun e => by have := (row_blk h.row hk).2; omega)⟩
theorem Anss.keep {w w' : World} {B : Nat} {v : Value} {ys : List An} {F : Nat → Prop} (h : Anss w B v ys F) (hb : Below w.heap.size w w') : Anss w' B v ys F :=
  ⟨Trk.own_chg h.row (Chg.of_below (F := fun _ => False) hb) (fun _ _ h => h), fun y hy => (h.ok y hy).keep hb, fun y hy i hi => by
    obtain ⟨h1, h2, h3⟩ := h.low y hy i hi
    exact ⟨Nat.lt_of_lt_of_le h1 hb.size, h2, h3⟩, h.rowf⟩
theorem ans_info : ∃ i0, Tryd.prog.info? 26 = some i0 ∧ i0.zero = some (.agg #[.int .i64 0, .slice none 0 0, .slice none 0 0]) ∧ i0.size = 3 ∧ i0.bytes = 56 := by
  have hinf : (Tryd.prog.info? 26).map (fun i => (i.zero, i.size, i.bytes)) = some (some (.agg #[.int .i64 0, .slice none 0 0, .slice none 0 0]), 3, 56) := by kernel_rfl
  obtain ⟨i, hi, hzz⟩ := Option.map_eq_some_iff.1 hinf
  simp only [Prod.mk.injEq] at hzz
  exact ⟨i, hi, hzz.1, hzz.2.1, hzz.2.2⟩
/-- an answer more -/
theorem Anss.more {w : World} {B : Nat} {v : Value} {ys : List An} {F : Nat → Prop} {y : An} (h : Anss w B v ys F) (hy : AnOk w y) (hyl : ∀ i, Gb y.a i ∨ Gb y.g i → i < w.heap.size ∧ ¬ F i ∧ v.ownBlock ≠ some i) (hF : ∀ i, F i → i < w.heap.size) (hB : B ≤ w.heap.size) (hn : ys.length ≤ 1000000) :
    ∃ A c w2, (Builtin.append_ #[37, 37] 37 #[v, .slice (some ⟨w.heap.size, 0, none⟩) 1 1]).run Tryd.prog (w.alloc (.cells #[.int .i64 y.e, .slice y.a y.d.length y.c, .slice y.g y.n.length y.k] 26)) = .ok (.slice A (ys.length + 1) c) w2 ∧ Anss w2 B (.slice A (ys.length + 1) c) (ys ++ [y]) F ∧ Chg (fun i => v.ownBlock = some i) w w2 := by
  have hba : Below w.heap.size w (w.alloc (.cells #[.int .i64 y.e, .slice y.a y.d.length y.c, .slice y.g y.n.length y.k] 26)) := (Below.refl _ w).alloc (Nat.le_refl _) _
  have ha := h.keep hba
  obtain ⟨i0, hi0, hz0, hz1, hz2⟩ := ans_info
  obtain ⟨v2, w2, hrun, ho, hg, _, hat⟩ := run_append_own_at (P := Tryd.prog) (w.alloc (.cells #[.int .i64 y.e, .slice y.a y.d.length y.c, .slice y.g y.n.length y.k] 26)) B 37 37 26 i0 _ 3 56 Tryd.underlying37 hi0 hz0 hz1 hz2 rfl (by decide) v ys.length (ycells ys) ha.row ⟨w.heap.size, 0, none⟩ 1 1 (yc y) rfl (fun j x hj => by
    match j, hj with
    | 0, hj => simp only [yc, List.getElem?_cons_zero, Option.some.injEq] at hj; subst hj; rw [Go.WideShapes.add_plain, Crc.alloc_cell]; rfl
    | 1, hj => simp only [yc, List.getElem?_cons_succ, List.getElem?_cons_zero, Option.some.injEq] at hj; subst hj; rw [Go.WideShapes.add_plain, Crc.alloc_cell]; rfl
    | 2, hj => simp only [yc, List.getElem?_cons_succ, List.getElem?_cons_zero, Option.some.injEq] at hj; subst hj; rw [Go.WideShapes.add_plain, Crc.alloc_cell]; rfl
    | j + 3, hj => simp [yc] at hj) (by simp [yc, Value.oneCell']) (by unfold maxLen; omega) (by omega) (Nat.le_trans hB hba.size)
  have hch : Chg (fun i => v.ownBlock = some i) w w2 := Chg.after hba ⟨hg.os, hg.tape, hg.output, hg.size, fun k hk hne => hg.block k hk (fun e => hne e.symm)⟩
  have hv2 : v2.ownBlock = v.ownBlock ∨ ∃ k, v2.ownBlock = some k ∧ w.heap.size ≤ k := hat.imp id (fun e => ⟨_, e, by rw [World.size_alloc]; omega⟩)
  have hall : ∀ z ∈ ys ++ [y], AnOk w z ∧ ∀ i, Gb z.a i ∨ Gb z.g i → i < w.heap.size ∧ ¬ F i ∧ v.ownBlock ≠ some i := fun z hz => by
    rcases List.mem_append.1 hz with h1 | h1
    · exact ⟨h.ok z h1, h.low z h1⟩
    · obtain rfl : z = y := by simpa using h1
      exact ⟨hy, hyl⟩
  have hrow : w2.ownsRow B 26 3 v2 (ys.length + 1) (ycells (ys ++ [y])) := by
    rw [ycells_app]
    simpa [ycells] using ho
  obtain ⟨A, c, rfl⟩ : ∃ A c, v2 = .slice A (ys.length + 1) c := by
    rcases hrow.2 with ⟨_, h0⟩ | ⟨g, cap, cur, e, _⟩
    · omega
    · exact ⟨_, _, e⟩
  refine ⟨A, c, w2, hrun, ⟨by rw [List.length_append, List.length_singleton]; exact hrow, fun z hz => ?_, fun z hz i hi => ?_, fun k hk hf => ?_⟩, hch⟩
  · obtain ⟨h1, h2⟩ := hall z hz
    exact h1.chg hch (fun i hi e => (h2 i hi).2.2 e)
  · obtain ⟨_, h2⟩ := hall z hz
    obtain ⟨g1, g2, g3⟩ := h2 i hi
    refine ⟨Nat.lt_of_lt_of_le g1 hch.size, g2, fun e => ?_⟩
    rcases hv2 with h4 | ⟨k, h4, h5⟩
    · exact g3 (h4.symm.trans e)
    · rw [h4] at e
      injection e with e
      omega
  · rcases hv2 with h4 | ⟨k', h4, h5⟩
    · exact h.rowf k (h4.symm.trans hk) hf
    · rw [h4] at hk
      injection hk with hk
      have := hF k hf
      omega
theorem anss_nil (w : World) (B : Nat) (F : Nat → Prop) : Anss w B (.slice none 0 0) [] F := ⟨World.ownsRow_nil _ _ _ _, fun y hy => by simp at hy, fun y hy => by simp at hy, fun k hk => by cases hk⟩
/-- an answer of the row -/
theorem Anss.at {w : World} {B n c : Nat} {A : Option Addr} {ys : List An} {F : Nat → Prop} (h : Anss w B (.slice A n c) ys F) (hn : ys.length = n) {j : Nat} (hj : j < ys.length) : ∃ g, A = some ⟨g, 0, none⟩ ∧ g < w.heap.size ∧ w.cell? ⟨g, j * 3, none⟩ = some (.int .i64 ys[j].e) ∧ w.cell? ⟨g, j * 3 + 1, none⟩ = some (.slice ys[j].a ys[j].d.length ys[j].c) ∧ w.cell? ⟨g, j * 3 + 2, none⟩ = some (.slice ys[j].g ys[j].n.length ys[j].k) := by
  subst hn
  have hr := h.row
  obtain ⟨g0, g1, g2⟩ := ycells_get hj
  rcases hr.2 with ⟨_, h0⟩ | ⟨g, cap, cur, e, _⟩
  · omega
  · injection e with e1 e2 e3
    subst e1 e3
    exact ⟨g, rfl, (row_blk hr (k := g) rfl).2, (hr.cellAt (j * 3) (by omega)).trans g0, (hr.cellAt (j * 3 + 1) (by omega)).trans g1, (hr.cellAt (j * 3 + 2) (by omega)).trans g2⟩

/-- a deed -/
structure Dd where
  k : Int
  p : ByteArray
  x : Int
  n : Int
  a : Option Addr
  c : Nat
  b : List Nat
/-- deeds as they lie -/
structure Dds (w : World) (A : Option Addr) (l : List Dd) : Prop where
  len : l.length ≤ 9223372036854775807
  ok : ∀ g ∈ l, g.p.size ≤ 9223372036854775807 ∧ g.b.length ≤ g.c ∧ Crc.Bts w g.a g.b ∧ (g.a = none → g.c = 0) ∧ g.x ≤ 9223372036854775807 ∧ g.n ≤ 9223372036854775807
  at' : ∀ j (h : j < l.length), ∃ b o, A = some ⟨b, o, none⟩ ∧ b < w.heap.size ∧ w.cell? ⟨b, o + j * 5, none⟩ = some (.int .i64 l[j].k) ∧ w.cell? ⟨b, o + j * 5 + 1, none⟩ = some (.string l[j].p) ∧ w.cell? ⟨b, o + j * 5 + 2, none⟩ = some (.int .i64 l[j].x) ∧ w.cell? ⟨b, o + j * 5 + 3, none⟩ = some (.int .i64 l[j].n) ∧ w.cell? ⟨b, o + j * 5 + 4, none⟩ = some (.slice l[j].a l[j].b.length l[j].c)
/-- block i is none of theirs -/
def DAp (i : Nat) (A : Option Addr) (l : List Dd) : Prop := (∀ a, A = some a → l ≠ [] → a.block ≠ i) ∧ ∀ g ∈ l, ∀ a, g.a = some a → g.b ≠ [] → a.block ≠ i
theorem Dds.chg {w w' : World} {F : Nat → Prop} {A : Option Addr} {l : List Dd} (h : Dds w A l) (hc : Chg F w w') (ha : ∀ i, F i → DAp i A l) : Dds w' A l :=
  ⟨h.len, fun g hg => by
    obtain ⟨h1, h2, h3, h4⟩ := h.ok g hg
    exact ⟨h1, h2, Trk.bts_chg h3 hc (fun ad e h0 hf => (ha _ hf).2 g hg ad e h0 rfl), h4⟩, fun j hj => by
    obtain ⟨b, o, e, hlt, k0, k1, k2, k3, k4⟩ := h.at' j hj
    have hx := hc.block b hlt (fun hf => (ha _ hf).1 _ e (fun h0 => by rw [h0] at hj; simp at hj) rfl)
    exact ⟨b, o, e, Nat.lt_of_lt_of_le hlt hc.size, (World.cell?_of_block (w := w) (a := ⟨b, o + j * 5, none⟩) hx).trans k0, (World.cell?_of_block (w := w) (a := ⟨b, o + j * 5 + 1, none⟩) hx).trans k1, (World.cell?_of_block (w := w) (a := ⟨b, o + j * 5 + 2, none⟩) hx).trans k2, (World.cell?_of_block (w := w) (a := ⟨b, o + j * 5 + 3, none⟩) hx).trans k3, (World.cell?_of_block (w := w) (a := ⟨b, o + j * 5 + 4, none⟩) hx).trans k4⟩⟩
theorem Dds.keep {w w' : World} {A : Option Addr} {l : List Dd} (h : Dds w A l) (hb : Below w.heap.size w w') : Dds w' A l := h.chg (Chg.of_below (F := fun _ => False) hb) (fun _ h => h.elim)
theorem Dds.apart {w : World} {A : Option Addr} {l : List Dd} (h : Dds w A l) {i : Nat} (hi : w.heap.size ≤ i) : DAp i A l := by
  refine ⟨fun a e hl => ?_, fun g hg a e hn => ?_⟩
  · obtain ⟨b', o', e', hlt, _⟩ := h.at' 0 (List.length_pos_iff.2 hl)
    rw [e] at e'
    injection e' with e'
    subst e'
    simp only
    omega
  · obtain ⟨b', o', e', hlt, _⟩ := (h.ok g hg).2.2.1.at' 0 (List.length_pos_iff.2 hn)
    rw [e] at e'
    injection e' with e'
    subst e'
    simp only
    omega

/-- what a deed makes of a tree, and its answer -/
def rM (t : List Th) (g : Dd) : List Th × Int × ByteArray × List ByteArray := doM t g.k g.p g.x g.n (Crc.str g.b)
/-- what deeds make of a tree -/
def tM (t : List Th) (l : List Dd) : List Th := l.foldl (fun t g => (rM t g).1) t
theorem tM_take (t : List Th) (l : List Dd) {j : Nat} (hj : j < l.length) : tM t (l.take (j + 1)) = (rM (tM t (l.take j)) l[j]).1 := by
  unfold tM
  rw [List.take_succ_eq_append_getElem hj, List.foldl_append]
  rfl
/-- an answer is as is told -/
def Mt (y : An) (r : List Th × Int × ByteArray × List ByteArray) : Prop := y.e = r.2.1 ∧ Crc.str y.d = r.2.2.1 ∧ y.n = r.2.2.2
theorem wf_doM {t : List Th} (hW : Wf t) (k : Int) (p : ByteArray) (x n : Int) {bs : List Nat} (hb : Crc.Byt bs) : Wf (doM t k p x n (Crc.str bs)).1 := by
  unfold doM
  split
  · exact hW.doT _ p x n hb
  · exact hW
theorem doM_len (t : List Th) (k : Int) (p : ByteArray) (x n : Int) (v : ByteArray) : (doM t k p x n v).1.length ≤ t.length + 1 := by
  unfold doM
  split
  · exact Trk.doT_len t _ p x n v
  · exact Nat.le_succ _
end Mod
end Go.Proofs.YtkhkcfbacnkcnaaDoor
/- The program's model: deeds, one behind the other. -/
namespace Go.Proofs.YtkhkcfbacnkcnaaDoor
open Go.RowKit Go.MapKept
namespace Mod
open Tre (Nm Th doT)
open Trk (Mem Nd Wf Fp Chg TrkN TrkR Gb row_blk row_same)
open Pat (Txs)

/-- deeds that are little -/
def Fit (l : List Dd) : Prop := ∀ g ∈ l, g.p.size < 4294967281 ∧ g.b.length ≤ 1000000
/-- answers as are told, of the first j deeds -/
def Mts (t : List Th) (l : List Dd) (ys : List An) : Prop := ∀ j (h : j < l.length) (h' : j < ys.length), Mt ys[j] (rM (tM t (l.take j)) l[j])
/-- what deeds leave -/
def RunR (w : World) (N : Nat) (t : List Th) (L : Nm → Nd) (l : List Dd) (n : Nat) (e : Ending) (w' : World) : Prop :=
  ∃ (G : Option Addr) (gc : Nat) (ys : List An), e = .returned (.slice G n gc) ∧ ys.length = n ∧ Mts t l ys ∧ Chg (Fp t L) w w' ∧ ∃ L', Mem w' (N + n) (tM t l) L' ∧ (L' []).b = (L []).b ∧ (∀ i, Fp (tM t l) L' i → Fp t L i ∨ w.heap.size ≤ i) ∧ Anss w' w.heap.size (.slice G n gc) ys (Fp (tM t l) L')
theorem wf_tM {t : List Th} (hW : Wf t) {l : List Dd} (hb : ∀ g ∈ l, Crc.Byt g.b) : Wf (tM t l) := by
  induction l generalizing t with
  | nil => exact hW
  | cons g l ih => exact ih (wf_doM hW g.k g.p g.x g.n (hb g (by simp))) (fun g' hg => hb g' (by simp [hg]))
theorem tM_len (t : List Th) (l : List Dd) : (tM t l).length ≤ t.length + l.length := by
  induction l generalizing t with
  | nil => exact Nat.le_refl _
  | cons g l ih =>
    have h1 := ih (rM t g).1
    have h2 := doM_len t g.k g.p g.x g.n (Crc.str g.b)
    have h3 : tM t (g :: l) = tM (rM t g).1 l := rfl
    rw [h3, List.length_cons]
    unfold rM at *
    omega
theorem mts_more {t : List Th} {l : List Dd} {ys : List An} {y : An} {j : Nat} (h : Mts t (l.take j) ys) (hys : ys.length = j) (hj : j < l.length) (hm : Mt y (rM (tM t (l.take j)) l[j])) : Mts t (l.take (j + 1)) (ys ++ [y]) := fun i hi hi' => by
  have hi2 : i < j + 1 := by rw [List.length_append, List.length_singleton] at hi'; omega
  rw [List.take_take, Nat.min_eq_left (by omega), List.getElem_take]
  by_cases he : i = j
  · subst he
    rw [List.getElem_append_right (by omega)]
    simp only [hys, Nat.sub_self, List.getElem_cons_zero]
    exact hm
  · rw [List.getElem_append_left (by omega)]
    have := h i (by rw [List.length_take]; omega) (by omega)
    rw [List.take_take, Nat.min_eq_left (by omega), List.getElem_take] at this
    exact this

set_option maxRecDepth 100000 in
set_option maxHeartbeats 4000000 in
theorem run_any (w : World) (N b0 n c : Nat) (t : List Th) (L : Nm → Nd) (A : Option Addr) (l : List Dd) (hM : Mem w N t L) (hb : (L []).b = b0) (hW : Wf t) (hD : Dds w A l) (hn : l.length = n) (hap : ∀ i, Fp t L i → DAp i A l) (hf : Fit l) (hl : t.length ≤ 50000) (hnl : n ≤ 40000) (hN : N ≤ 900000) :
    Calls Tryd.prog 13 #[.iface 35 (.pointer (some ⟨b0, 0, none⟩)), .slice A n c] w (RunR w N t L l n) := by
  obtain ⟨i0, hi0, hz0, hz1, hz2⟩ := ans_info
  have hmk := run_make (P := Tryd.prog) w 37 26 i0 _ Tryd.underlying37 hi0 hz0 .i64 .i64 0 (n : Int) (by omega) (by omega) (by rw [hz2]; omega) (by omega)
  simp only [Int.toNat_natCast, Int.toNat_zero, hz1] at hmk
  have hown : (w.alloc (.cells (madeCells (Value.agg #[.int .i64 0, .slice none 0 0, .slice none 0 0]).cells (n * 3)) 26)).ownsRow w.heap.size 26 3 (.slice (some ⟨w.heap.size, 0, none⟩) 0 n) 0 [] := World.ownsRow_made w _ n (Nat.le_refl _) (by unfold maxLen; omega) (size_madeCells _ _)
  have hba := (Below.refl w.heap.size w).alloc (Nat.le_refl _) (.cells (madeCells (Value.agg #[.int .i64 0, .slice none 0 0, .slice none 0 0]).cells (n * 3)) 26)
  have hS0 : Chg (Fp t L) w (w.alloc (.cells (madeCells (Value.agg #[.int .i64 0, .slice none 0 0, .slice none 0 0]).cells (n * 3)) 26)) ∧ Mem (w.alloc (.cells (madeCells (Value.agg #[.int .i64 0, .slice none 0 0, .slice none 0 0]).cells (n * 3)) 26)) (N + 0) t L ∧ Anss (w.alloc (.cells (madeCells (Value.agg #[.int .i64 0, .slice none 0 0, .slice none 0 0]).cells (n * 3)) 26)) w.heap.size (.slice (some ⟨w.heap.size, 0, none⟩) 0 n) [] (Fp t L) :=
    ⟨Chg.of_below hba, hM.keep hba, ⟨hown, fun y hy => by simp at hy, fun y hy => by simp at hy, fun k hk hf => by
      simp only [Value.ownBlock, Option.some.injEq] at hk
      have := hM.lt hf
      omega⟩⟩
  have HMK := Lib.hid hmk
  have HS0 := Lib.hid hS0
  have HD := Lib.hid hD
  have HLN := Lib.hid hn
  have HAP := Lib.hid hap
  have HF := Lib.hid hf
  have HBY := Lib.hid (show ∀ g ∈ l, Crc.Byt g.b from fun g hg => (hD.ok g hg).2.2.1.byt)
  clear hown hba hS0 hD hn hap hf hi0 hz0 hz1 hz2
  generalize w.alloc (.cells (madeCells (Value.agg #[.int .i64 0, .slice none 0 0, .slice none 0 0]).cells (n * 3)) 26) = wm at *
  go_enter Tryd.func13, Tryd.ntmps13
  go_wp2_with fail
  go_loopw [5, 13] (fun v ix wr => ∃ (j : Nat) (L' : Nm → Nd) (G : Option Addr) (gc : Nat) (ys : List An), j ≤ n ∧ ix = .int .i64 (j : Int) ∧ v = .slice G j gc ∧ ys.length = j ∧ Mts t (l.take j) ys ∧ Chg (Fp t L) w wr ∧ Mem wr (N + j) (tM t (l.take j)) L' ∧ (L' []).b = b0 ∧ (∀ i, Fp (tM t (l.take j)) L' i → Fp t L i ∨ w.heap.size ≤ i) ∧ Anss wr w.heap.size (.slice G j gc) ys (Fp (tM t (l.take j)) L')) (fun _ ix _ => n - (intOf ix).toNat)
  case atStart => exact ⟨0, L, _, n, [], Nat.zero_le _, rfl, rfl, rfl, fun i hi => by simp at hi, HS0.out.1, by rw [List.take_zero]; exact HS0.out.2.1, hb, fun i hi => by rw [List.take_zero] at hi; exact .inl hi, by rw [List.take_zero]; exact HS0.out.2.2⟩
  case round =>
    obtain ⟨j, L', G, gc, ys, hj, rfl, rfl, hys, hmt, hch, hmem, hroot, hfp, hans⟩ := hrel
    have HYS := Lib.hid hys
    have HMT := Lib.hid hmt
    have HCH := Lib.hid hch
    have HMEM := Lib.hid hmem
    have HROOT := Lib.hid hroot
    have HFP := Lib.hid hfp
    have HANS := Lib.hid hans
    have HDD := Lib.hid (HD.out.chg hch HAP.out)
    clear hys hmt hch hmem hroot hfp hans
    by_cases hlt : j < n
    · have hlti : j < l.length := by rw [HLN.out]; exact hlt
      obtain ⟨bi, oi, rfl, hbli, k0, k1, k2, k3, k4⟩ := HDD.out.at' j hlti
      have hok := HDD.out.ok _ (List.getElem_mem hlti)
      have hfit := HF.out _ (List.getElem_mem hlti)
      have HTM := Lib.hid (tM_take t l hlti)
      have HMORE := Lib.hid (fun y hy => mts_more (y := y) HMT.out HYS.out hlti hy)
      have hlen := tM_len t (l.take j)
      have hwf : Wf (tM t (l.take j)) := wf_tM hW (fun g hg => HBY.out g (List.mem_of_mem_take hg))
      have HWF := Lib.hid hwf
      have HLEN := Lib.hid (show (tM t (l.take j)).length ≤ 100000 by rw [List.length_take] at hlen; omega)
      clear hlen hwf
      generalize tM t (l.take j) = t1 at *
      generalize l[j] = q at *
      obtain ⟨k, p, x, nn, ga, gc0, bs⟩ := q
      simp only at k0 k1 k2 k3 k4
      obtain ⟨m, hm⟩ : ∃ m, m = bs.length := ⟨_, rfl⟩
      rw [← hm] at k4
      have HM2 := Lib.hid hm
      have HOK := Lib.hid hok
      have HFIT := Lib.hid (show p.size < 4294967281 ∧ m ≤ 1000000 from ⟨hfit.1, by rw [hm]; exact hfit.2⟩)
      have hj0 : (j : Int) < (n : Int) := by omega
      have hm0 : (0 : Int) ≤ (j : Int) := by omega
      clear hm hok hfit hlti
      have hbx := (Below.refl wr.heap.size wr).alloc (Nat.le_refl _) (.cells #[.int .i64 k, .string p, .int .i64 x, .int .i64 nn, .slice ga m gc0] 40)
      have hdo := do_any (wr.alloc (.cells #[.int .i64 k, .string p, .int .i64 x, .int .i64 nn, .slice ga m gc0] 40)) (N + j) b0 k t1 L' p x nn m gc0 ga bs (HMEM.out.keep hbx) HROOT.out HWF.out HFIT.out.1 (by omega) HM2.out.symm HFIT.out.2 (HOK.out.2.2.1.keep hbx) HOK.out.2.2.2.2.1 HOK.out.2.2.2.2.2 HLEN.out
      have HRM := Lib.hid (show rM t1 ⟨k, p, x, nn, ga, gc0, bs⟩ = doM t1 k p x nn (Crc.str bs) from rfl)
      rw [← HRM.out] at hdo
      have HDO := Lib.hid hdo
      have HBX := Lib.hid hbx
      clear hdo hbx
      generalize rM t1 ⟨k, p, x, nn, ga, gc0, bs⟩ = r at *
      go_wp2_with fail
      refine HDO.out.mono ?_
      rintro e w2 ⟨y, rfl, h1, h2, h3, hyo, hch2, L2, hmem2, hroot2, hfp2, hgy⟩
      have hbs := HBX.out.size
      have hanx := HANS.out.keep HBX.out
      have hfplt : ∀ i, Fp t1 L' i → i < wr.heap.size := fun i hi => HMEM.out.lt hi
      have hans2 : Anss w2 w.heap.size (.slice G j gc) ys (Fp r.1 L2) := hanx.step hch2 hfp2
      have hrb : ∀ k, (Value.slice G j gc).ownBlock = some k → k < wr.heap.size := fun k hk => (row_blk HANS.out.row hk).2
      have hyl : ∀ i, Gb y.a i ∨ Gb y.g i → i < w2.heap.size ∧ ¬ Fp r.1 L2 i ∧ (Value.slice G j gc).ownBlock ≠ some i := fun i hi => by
        obtain ⟨q1, q2, q3⟩ := hgy i hi
        exact ⟨q2, q3, fun e => by have := hrb i e; omega⟩
      have hchw : Chg (Fp t L) w w2 := HCH.out.trans (Chg.after HBX.out hch2) HFP.out
      obtain ⟨A3, c3, w3, hrun, hans3, hch3⟩ := hans2.more hyo hyl (fun i hi => hmem2.lt hi) hchw.size (by rw [HYS.out]; omega)
      rw [HYS.out] at hrun hans3
      have HRUN := Lib.hid hrun
      have HANS3 := Lib.hid hans3
      have hnf : ∀ i, Fp r.1 L2 i → ¬ (Value.slice G j gc).ownBlock = some i := fun i hi e => hans2.rowf i e hi
      have HMEM3 := Lib.hid (hmem2.chg hch3 hnf)
      have HROOT3 := Lib.hid (show (L2 []).b = b0 from hroot2.trans HROOT.out)
      have HFP3 := Lib.hid (show ∀ i, Fp r.1 L2 i → Fp t L i ∨ w.heap.size ≤ i from fun i hi => by
        rcases hfp2 i hi with h | h
        · exact HFP.out i h
        · have := HCH.out.size
          exact .inr (by omega))
      have HCH3 := Lib.hid (show Chg (Fp t L) w w3 from hchw.trans hch3 (fun i e => .inr (row_blk HANS.out.row e).1))
      have HY := Lib.hid (HMORE.out y ⟨h1, h2, h3⟩)
      have HYL := Lib.hid (show (ys ++ [y]).length = j + 1 by rw [List.length_append, HYS.out]; rfl)
      clear hbs hanx hfplt hans2 hrb hyl hchw hrun hans3 hnf h1 h2 h3 hyo hch2 hmem2 hroot2 hfp2 hgy hch3 k0 k1 k2 k3 k4
      generalize ys ++ [y] = ys2 at *
      obtain ⟨ye, ya, yc0, yd, yg, yk, yn⟩ := y
      unfold An.val at *
      simp only at HRUN ⊢
      generalize yd.length = dl at *
      generalize yn.length = nl at *
      go_wp2_with (at_builtin; refine Pat.wpList_append_run rfl (.tmp 17) (.tmp 21) 37 rfl _ _ _ rfl rfl HRUN.out ?_)
      exact ⟨⟨j + 1, L2, A3, c3, ys2, by omega, by go_num, rfl, HYL.out, HY.out, HCH3.out, by rw [HTM.out]; exact HMEM3.out, HROOT3.out, by rw [HTM.out]; exact HFP3.out, by rw [HTM.out]; exact HANS3.out⟩, by simp [intOf]; omega⟩
    · obtain rfl : j = n := by omega
      have HT : Hid (l.take j = l) := Lib.hid (List.take_of_length_le (by have := HLN.out; omega))
      rw [HT.out] at HMT HMEM HFP HANS
      have HR := Lib.hid (show RunR w N t L l j (.returned (.slice G j gc)) wr from ⟨G, gc, ys, rfl, HYS.out, HMT.out, HCH.out, L', HMEM.out, by rw [HROOT.out, hb], HFP.out, HANS.out⟩)
      go_wp2
      go_ret
      exact HR.out
end Mod
end Go.Proofs.YtkhkcfbacnkcnaaDoor
/- Law 14's example. -/
namespace Go.Proofs.YtkhkcfbacnkcnaaDoor
open Go.RowKit Go.MapKept
namespace Mod
open Tre (Nm Th doT)
open Trk (Mem Nd Wf Fp Chg TrkN TrkR Gb row_blk row_same)
open Pat (Txs)

def d0 : Dd := ⟨0, ⟨#[47, 97]⟩, 0, 0, none, 0, []⟩
def d1 : Dd := ⟨6, ⟨#[47, 97]⟩, 0, 5, none, 0, []⟩
def d2 : Dd := ⟨7, ⟨#[47]⟩, 0, 0, none, 0, []⟩
def tA : List Th := [([⟨#[97]⟩], false, ByteArray.empty)]
theorem r0 : rM [] d0 = (tA, 0, ⟨#[]⟩, []) := by kernel_rfl
theorem r1 : rM tA d1 = (tA, 0, ⟨#[]⟩, []) := by kernel_rfl
theorem r2 : rM tA d2 = (tA, 0, ⟨#[]⟩, [⟨#[97]⟩]) := by kernel_rfl
theorem mts3 {ys : List An} (h : Mts [] [d0, d1, d2] ys) (hl : ys.length = 3) : ∃ y0 y1 y2, ys = [y0, y1, y2] ∧ y0.e = 0 ∧ y1.e = 0 ∧ y1.d.length = 0 ∧ y2.e = 0 ∧ y2.n = [⟨#[97]⟩] := by
  match ys, hl with
  | [y0, y1, y2], _ =>
    have h0 : Mt y0 (rM [] d0) := h 0 (by simp) (by simp)
    have h1 : Mt y1 (rM (tM [] [d0]) d1) := h 1 (by simp) (by simp)
    have h2 : Mt y2 (rM (tM [] [d0, d1]) d2) := h 2 (by simp) (by simp)
    have e1 : tM [] [d0] = tA := by show (rM [] d0).1 = tA; rw [r0]
    have e2 : tM [] [d0, d1] = tA := by show (rM (rM [] d0).1 d1).1 = tA; rw [r0]; show (rM tA d1).1 = tA; rw [r1]
    rw [r0] at h0
    rw [e1, r1] at h1
    rw [e2, r2] at h2
    refine ⟨y0, y1, y2, rfl, h0.1, h1.1, ?_, h2.1, h2.2.2⟩
    have := congrArg ByteArray.size h1.2.1
    rw [Crc.str_size] at this
    exact this

theorem dds3 (w : World) : Dds (w.alloc (.cells #[.int .i64 0, .string ⟨#[47, 97]⟩, .int .i64 0, .int .i64 0, .slice none 0 0, .int .i64 6, .string ⟨#[47, 97]⟩, .int .i64 0, .int .i64 5, .slice none 0 0, .int .i64 7, .string ⟨#[47]⟩, .int .i64 0, .int .i64 0, .slice none 0 0] 40)) (some ⟨w.heap.size, 0, none⟩) [d0, d1, d2] := by
  have bn : ∀ W : World, Crc.Bts W none [] := fun W => ⟨fun b hb => by simp at hb, by simp, fun j hj => by simp at hj⟩
  refine ⟨by simp, fun g hg => ?_, fun j hj => ⟨w.heap.size, 0, rfl, by simp, ?_⟩⟩
  · simp only [List.mem_cons, List.not_mem_nil, or_false] at hg
    rcases hg with rfl | rfl | rfl
    · exact ⟨by decide, by decide, bn _, fun _ => rfl, by decide, by decide⟩
    · exact ⟨by decide, by decide, bn _, fun _ => rfl, by decide, by decide⟩
    · exact ⟨by decide, by decide, bn _, fun _ => rfl, by decide, by decide⟩
  · have hj3 : j < 3 := hj
    match j, hj3 with
    | 0, _ => exact ⟨Crc.alloc_cell w _ _ 0, Crc.alloc_cell w _ _ 1, Crc.alloc_cell w _ _ 2, Crc.alloc_cell w _ _ 3, Crc.alloc_cell w _ _ 4⟩
    | 1, _ => exact ⟨Crc.alloc_cell w _ _ 5, Crc.alloc_cell w _ _ 6, Crc.alloc_cell w _ _ 7, Crc.alloc_cell w _ _ 8, Crc.alloc_cell w _ _ 9⟩
    | 2, _ => exact ⟨Crc.alloc_cell w _ _ 10, Crc.alloc_cell w _ _ 11, Crc.alloc_cell w _ _ 12, Crc.alloc_cell w _ _ 13, Crc.alloc_cell w _ _ 14⟩

set_option maxRecDepth 100000 in
set_option maxHeartbeats 4000000 in
theorem lives_any (w : World) : Calls Tryd.prog 5 #[] w fun e w' => e = .returned (.bool true) ∧ Below w.heap.size w w' := by
  have H0 := Lib.hid (Trk.new_any w)
  have H1 := Lib.hid Trk.lives_any
  go_enter Tryd.func5, Tryd.ntmps5
  go_wp2_with fail
  refine H0.out.mono ?_
  rintro e wa ⟨rfl, hm, hb, _⟩
  have HM := Lib.hid hm
  have HB := Lib.hid hb
  clear hm hb H0
  generalize hbb : w.heap.size = b at *
  have HBB := Lib.hid hbb
  clear hbb
  go_wp2_with fail
  refine (H1.out _).mono ?_
  rintro e wb ⟨rfl, hb⟩
  have HB2 := Lib.hid (HB.out.trans (hb.mono (by have := HB.out.size; omega)))
  have HM2 := Lib.hid (HM.out.keep hb)
  clear hb
  go_wp2_with fail
  have hfb : ∀ i, Fp [] (Trk.L0 b) i → i = b := fun i hi => by
    obtain ⟨p, v, _, hi⟩ := hi
    simpa [Trk.own, Trk.L0] using hi
  have hba := (Below.refl wb.heap.size wb).alloc (Nat.le_refl _) (.cells #[.int .i64 0, .string ⟨#[47, 97]⟩, .int .i64 0, .int .i64 0, .slice none 0 0, .int .i64 6, .string ⟨#[47, 97]⟩, .int .i64 0, .int .i64 5, .slice none 0 0, .int .i64 7, .string ⟨#[47]⟩, .int .i64 0, .int .i64 0, .slice none 0 0] 40)
  have hsz : b ≤ wb.heap.size := by have := HB2.out.size; have := HBB.out; omega
  have hlt : b < wb.heap.size := HM2.out.lt (i := b) ⟨[], _, Trk.T_root [], by simp [Trk.own, Trk.L0]⟩
  have HRUN := Lib.hid (run_any (wb.alloc (.cells #[.int .i64 0, .string ⟨#[47, 97]⟩, .int .i64 0, .int .i64 0, .slice none 0 0, .int .i64 6, .string ⟨#[47, 97]⟩, .int .i64 0, .int .i64 5, .slice none 0 0, .int .i64 7, .string ⟨#[47]⟩, .int .i64 0, .int .i64 0, .slice none 0 0] 40)) 0 b 3 3 [] (Trk.L0 b) (some ⟨wb.heap.size, 0, none⟩) [d0, d1, d2] (HM2.out.keep hba) rfl Trk.wf_nil (dds3 wb) rfl (fun i hi => by
    obtain rfl := hfb i hi
    refine ⟨fun a e _ => ?_, fun g hg a e => ?_⟩
    · injection e with e
      subst e
      simp only
      omega
    · simp only [List.mem_cons, List.not_mem_nil, or_false] at hg
      rcases hg with rfl | rfl | rfl <;> cases e) (fun g hg => by
    simp only [List.mem_cons, List.not_mem_nil, or_false] at hg
    rcases hg with rfl | rfl | rfl <;> exact ⟨by decide, by decide⟩) (by simp) (by omega) (by omega))
  have HB3 := Lib.hid (HB2.out.trans (hba.mono hsz))
  have HSC := Lib.hid (show b ≤ (wb.alloc (.cells #[.int .i64 0, .string ⟨#[47, 97]⟩, .int .i64 0, .int .i64 0, .slice none 0 0, .int .i64 6, .string ⟨#[47, 97]⟩, .int .i64 0, .int .i64 5, .slice none 0 0, .int .i64 7, .string ⟨#[47]⟩, .int .i64 0, .int .i64 0, .slice none 0 0] 40)).heap.size from Nat.le_trans hsz hba.size)
  have HFB := Lib.hid hfb
  clear hfb hba
  generalize wb.alloc (.cells #[.int .i64 0, .string ⟨#[47, 97]⟩, .int .i64 0, .int .i64 0, .slice none 0 0, .int .i64 6, .string ⟨#[47, 97]⟩, .int .i64 0, .int .i64 5, .slice none 0 0, .int .i64 7, .string ⟨#[47]⟩, .int .i64 0, .int .i64 0, .slice none 0 0] 40) = wc at *
  refine HRUN.out.mono ?_
  rintro e wd ⟨G, gc, ys, rfl, hys, hmt, hch, L', hmem, hroot, hfp, hans⟩
  have HB4 := Lib.hid (HB3.out.trans (hch.below HSC.out (fun i hi => by rw [HFB.out i hi]; exact Nat.le_refl _)))
  obtain ⟨y0, y1, y2, rfl, h0, h1, h1d, h2, h2n⟩ := mts3 hmt hys
  obtain ⟨g, rfl, hgl, a0, a1, a2⟩ := hans.at hys (j := 0) (by simp)
  obtain ⟨g', eg, _, b0, b1, b2⟩ := hans.at hys (j := 1) (by simp)
  injection eg with eg
  injection eg with eg _
  subst eg
  obtain ⟨g', eg, _, c0, c1, c2⟩ := hans.at hys (j := 2) (by simp)
  injection eg with eg
  injection eg with eg _
  subst eg
  have htx := (hans.ok y2 (by simp)).txs
  rw [h2n] at htx
  obtain ⟨gn, on, en, hnl, hnc⟩ := htx.at' 0 (by simp)
  simp only [List.getElem_cons_zero, List.getElem_cons_succ, Nat.zero_mul, Nat.one_mul, Nat.zero_add, Nat.add_zero] at a0 a1 a2 b0 b1 b2 c0 c1 c2 hnc
  rw [h0] at a0
  rw [h1] at b0
  rw [h1d] at b1
  rw [h2] at c0
  rw [h2n, en] at c2
  simp only [List.length_cons, List.length_nil, Nat.zero_add] at c2
  clear htx hmem hroot hfp hans hmt hch hys HRUN h0 h1 h1d h2 h2n
  go_wp2
  go_ret
  exact ⟨rfl, by rw [HBB.out]; exact HB4.out⟩
end Mod
end Go.Proofs.YtkhkcfbacnkcnaaDoor
/- Law 14's ModelSame. -/
namespace Go.Proofs.YtkhkcfbacnkcnaaDoor
open Go.RowKit Go.MapKept
namespace Mod
open Pat (Txs)

theorem same_comm (x y : An) : same y x = same x y := by
  unfold same
  by_cases h : x.e = y.e ∧ x.d = y.d ∧ x.n = y.n
  · rw [decide_eq_true h, decide_eq_true ⟨h.1.symm, h.2.1.symm, h.2.2.symm⟩]
  · rw [decide_eq_false h, decide_eq_false (fun k => h ⟨k.1.symm, k.2.1.symm, k.2.2.symm⟩)]
theorem same_refl (x : An) : same x x = true := decide_eq_true ⟨rfl, rfl, rfl⟩
/-- an answer's box -/
structure Yb (w : World) (b : Nat) (x : An) (dl nl : Nat) : Prop where
  lt : b < w.heap.size
  c0 : w.cell? ⟨b, 0, none⟩ = some (.int .i64 x.e)
  c1 : w.cell? ⟨b, 1, none⟩ = some (.slice x.a dl x.c)
  c2 : w.cell? ⟨b, 2, none⟩ = some (.slice x.g nl x.k)
theorem Yb.keep {w w' : World} {b dl nl : Nat} {x : An} (h : Yb w b x dl nl) (hb : Below w.heap.size w w') : Yb w' b x dl nl :=
  ⟨Nat.lt_of_lt_of_le h.lt hb.size, (hb.cell (p := ⟨b, 0, none⟩) h.lt).trans h.c0, (hb.cell (p := ⟨b, 1, none⟩) h.lt).trans h.c1, (hb.cell (p := ⟨b, 2, none⟩) h.lt).trans h.c2⟩
theorem yb_new (w : World) (x : An) (dl nl : Nat) (t : TypeId) : Yb (w.alloc (.cells #[.int .i64 x.e, .slice x.a dl x.c, .slice x.g nl x.k] t)) w.heap.size x dl nl :=
  ⟨by simp, Crc.alloc_cell w _ t 0, Crc.alloc_cell w _ t 1, Crc.alloc_cell w _ t 2⟩

set_option maxRecDepth 100000 in
set_option maxHeartbeats 4000000 in
theorem same_law (w : World) (x y : An) (hx : AnOk w x) (hy : AnOk w y) :
    Calls Tryd.prog 3 #[x.val, y.val] w fun e w' => e = .returned (.bool true) ∧ Below w.heap.size w w' := by
  have hb1 := (Below.refl w.heap.size w).alloc (Nat.le_refl _) (.cells #[.int .i64 x.e, .slice x.a x.d.length x.c, .slice x.g x.n.length x.k] 26)
  have hb2 := (Below.refl (w.alloc (.cells #[.int .i64 x.e, .slice x.a x.d.length x.c, .slice x.g x.n.length x.k] 26)).heap.size (w.alloc (.cells #[.int .i64 x.e, .slice x.a x.d.length x.c, .slice x.g x.n.length x.k] 26))).alloc (Nat.le_refl _) (.cells #[.int .i64 y.e, .slice y.a y.d.length y.c, .slice y.g y.n.length y.k] 26)
  obtain ⟨bx, hbx⟩ : ∃ b, b = w.heap.size := ⟨_, rfl⟩
  obtain ⟨by', hby⟩ : ∃ b, b = w.heap.size + 1 := ⟨_, rfl⟩
  have hyx := (yb_new w x x.d.length x.n.length 26).keep hb2
  rw [← hbx] at hyx
  have hyy := yb_new (w.alloc (.cells #[.int .i64 x.e, .slice x.a x.d.length x.c, .slice x.g x.n.length x.k] 26)) y y.d.length y.n.length 26
  rw [show (w.alloc (.cells #[.int .i64 x.e, .slice x.a x.d.length x.c, .slice x.g x.n.length x.k] 26)).heap.size = by' by rw [hby]; simp] at hyy
  have hb12 := hb1.trans (hb2.mono hb1.size)
  have HB := Lib.hid hb12
  have HX := Lib.hid (hx.keep hb12)
  have HY := Lib.hid (hy.keep hb12)
  have HYX := Lib.hid hyx
  have HYY := Lib.hid hyy
  have HSC := Lib.hid (same_comm x y)
  have HSX := Lib.hid (same_refl x)
  have HSD := Lib.hid (show same x y = decide (x.e = y.e ∧ x.d = y.d ∧ x.n = y.n) from rfl)
  clear hb1 hb2 hyx hyy hb12 hx hy
  obtain ⟨xe, xa, xc, xd, xg, xk, xn⟩ := x
  obtain ⟨ye, ya, yc, yd, yg, yk, yn⟩ := y
  have HSM := Lib.hid (fun W hx hy => same_any W ⟨xe, xa, xc, xd, xg, xk, xn⟩ ⟨ye, ya, yc, yd, yg, yk, yn⟩ hx hy)
  have HSM2 := Lib.hid (fun W hx hy => same_any W ⟨ye, ya, yc, yd, yg, yk, yn⟩ ⟨xe, xa, xc, xd, xg, xk, xn⟩ hx hy)
  have HSM3 := Lib.hid (fun W hx => same_any W ⟨xe, xa, xc, xd, xg, xk, xn⟩ ⟨xe, xa, xc, xd, xg, xk, xn⟩ hx hx)
  rw [HSC.out] at HSM2
  rw [HSX.out] at HSM3
  unfold An.val at *
  simp only at HB HX HY HYX HYY HSM HSM2 HSM3 HSD ⊢
  generalize hxdl : xd.length = xdl at *
  generalize hydl : yd.length = ydl at *
  generalize hxnl : xn.length = xnl at *
  generalize hynl : yn.length = ynl at *
  have HL := Lib.hid (show xdl = xd.length ∧ ydl = yd.length ∧ xnl = xn.length ∧ ynl = yn.length from ⟨hxdl.symm, hydl.symm, hxnl.symm, hynl.symm⟩)
  clear hxdl hydl hxnl hynl HSC HSX
  generalize same ⟨xe, xa, xc, xd, xg, xk, xn⟩ ⟨ye, ya, yc, yd, yg, yk, yn⟩ = sm at *
  go_enter Tryd.func3, Tryd.ntmps3
  go_upto_region 1 with fail
  have hby2 : by' = bx + 1 := by omega
  rw [← hbx, ← hby2]
  generalize (w.alloc (.cells #[.int .i64 xe, .slice xa xdl xc, .slice xg xnl xk] 26)).alloc (.cells #[.int .i64 ye, .slice ya ydl yc, .slice yg ynl yk] 26) = w1 at *
  clear hbx hby hby2
  obtain ⟨s1, hs1⟩ : ∃ s1, IntKind.i64.wrap ((xdl : Int) + (ydl : Int)) = s1 := ⟨_, rfl⟩
  obtain ⟨s2, hs2⟩ : ∃ s2, IntKind.i64.wrap ((xnl : Int) + (ynl : Int)) = s2 := ⟨_, rfl⟩
  go_wp2_with fail
  refine (lives_any w1).mono ?_
  rintro e w2 ⟨rfl, hb2⟩
  have HB2 := Lib.hid (HB.out.trans (hb2.mono HB.out.size))
  have HX2 := Lib.hid (HX.out.keep hb2)
  have HY2 := Lib.hid (HY.out.keep hb2)
  have HYX2 := Lib.hid (HYX.out.keep hb2)
  have HYY2 := Lib.hid (HYY.out.keep hb2)
  clear hb2
  have x1 := HYX2.out.c1
  have x2 := HYX2.out.c2
  have y1 := HYY2.out.c1
  have y2 := HYY2.out.c2
  by_cases hf : 80 < s1 ∨ 80 < s2
  · have HLV := Lib.hid (lives_any w2)
    by_cases h1 : 80 < s1
    · have h1' : (80 < s1) = True := eq_true h1
      go_wp2_with fail
      refine HLV.out.mono ?_
      rintro e w3 ⟨rfl, hb3⟩
      have HB3 := Lib.hid (HB2.out.trans (hb3.mono HB2.out.size))
      clear hb3
      go_wp2
      go_ret
      exact ⟨rfl, HB3.out⟩
    · have h1' : (80 < s1) = False := eq_false h1
      have h2' : (80 < s2) = True := eq_true (hf.resolve_left h1)
      clear hf
      go_wp2_with fail
      refine HLV.out.mono ?_
      rintro e w3 ⟨rfl, hb3⟩
      have HB3 := Lib.hid (HB2.out.trans (hb3.mono HB2.out.size))
      clear hb3
      go_wp2
      go_ret
      exact ⟨rfl, HB3.out⟩
  · have h1' : (80 < s1) = False := eq_false (fun h => hf (.inl h))
    have h2' : (80 < s2) = False := eq_false (fun h => hf (.inr h))
    clear hf
    go_upto_region 3 with fail
    clear x1 x2 y1 y2 h1' h2'
    go_cut [5] from 29 to 49 (fun s wx => s = .bool sm ∧ Below w2.heap.size w2 wx)
    case first =>
      have x0 := HYX2.out.c0
      have x1 := HYX2.out.c1
      have x2 := HYX2.out.c2
      have y0 := HYY2.out.c0
      have y1 := HYY2.out.c1
      have y2 := HYY2.out.c2
      by_cases h1 : xe = ye
      · subst h1
        have hcx := Crc.conv_str xc HX2.out.bts
        have hcy := Crc.conv_str yc HY2.out.bts
        simp only at hcx hcy
        rw [← HL.out.1] at hcx
        rw [← HL.out.2.1] at hcy
        have hsb := Ent.str_beq HX2.out.bts.byt HY2.out.bts.byt
        by_cases h2 : xd = yd
        · have hse : Crc.str xd = Crc.str yd := by rw [h2]
          rw [hse] at hcx
          have hN := Pat.same_at w2 xg yg xk yk xnl ynl xn yn HL.out.2.2.1.symm HL.out.2.2.2.symm HX2.out.txs HY2.out.txs
          have HN := Lib.hid hN
          have HZ := Lib.hid (HSD.out.trans (show decide (xe = xe ∧ xd = yd ∧ xn = yn) = decide (xn = yn) by simp [h2]))
          clear hN h2 hse hsb
          generalize Crc.str yd = S at *
          go_wp2_with fail
          refine HN.out.mono ?_
          rintro e w3 ⟨rfl, n3, hw3⟩
          have HB3 := Lib.hid (show Below w2.heap.size w2 w3 by rw [hw3]; exact Pat.below_drewN (Below.refl _ _) n3)
          clear hw3
          generalize decide (xn = yn) = q at *
          go_wp2
          go_meet
          exact ⟨by rw [HZ.out], HB3.out⟩
        · have HZ := Lib.hid (HSD.out.trans (show decide (xe = xe ∧ xd = yd ∧ xn = yn) = false from decide_eq_false (fun h => h2 h.2.1)))
          simp only at hsb
          rw [decide_eq_false h2] at hsb
          clear h2
          generalize Crc.str yd = S at *
          generalize Crc.str xd = T at *
          go_wp2
          go_meet
          exact ⟨by rw [HZ.out], Below.refl _ _⟩
      · have HZ := Lib.hid (HSD.out.trans (show decide (xe = ye ∧ xd = yd ∧ xn = yn) = false from decide_eq_false (fun h => h1 h.1)))
        have h3 : (xe == ye) = false := beq_eq_false_iff_ne.2 h1
        go_wp2
        go_meet
        exact ⟨by rw [HZ.out], Below.refl _ _⟩
    case rest =>
      obtain ⟨rfl, hbc⟩ := hcut
      have HBC := Lib.hid (HB2.out.trans (hbc.mono HB2.out.size))
      have HXC := Lib.hid (HX2.out.keep hbc)
      have HYC := Lib.hid (HY2.out.keep hbc)
      have HYXC := Lib.hid (HYX2.out.keep hbc)
      have HYYC := Lib.hid (HYY2.out.keep hbc)
      clear hbc
      have HQ := Lib.hid (HSM.out wc HXC.out HYC.out)
      have x0 := HYXC.out.c0
      have x1 := HYXC.out.c1
      have x2 := HYXC.out.c2
      have y0 := HYYC.out.c0
      have y1 := HYYC.out.c1
      have y2 := HYYC.out.c2
      have hss : (sm == sm) = true := beq_self_eq_true sm
      go_wp2_with fail
      refine HQ.out.mono ?_
      rintro e w3 ⟨rfl, hb3⟩
      have HB3 := Lib.hid (HBC.out.trans (hb3.mono HBC.out.size))
      have HX3 := Lib.hid (HXC.out.keep hb3)
      have HY3 := Lib.hid (HYC.out.keep hb3)
      have HYX3 := Lib.hid (HYXC.out.keep hb3)
      have HYY3 := Lib.hid (HYYC.out.keep hb3)
      clear hb3 x0 x1 x2 y0 y1 y2 HQ
      have HQ := Lib.hid (HSM2.out w3 HY3.out HX3.out)
      have x0 := HYX3.out.c0
      have x1 := HYX3.out.c1
      have x2 := HYX3.out.c2
      have y0 := HYY3.out.c0
      have y1 := HYY3.out.c1
      have y2 := HYY3.out.c2
      go_wp2_with fail
      refine HQ.out.mono ?_
      rintro e w4 ⟨rfl, hb4⟩
      have HB4 := Lib.hid (HB3.out.trans (hb4.mono HB3.out.size))
      have HYX4 := Lib.hid (HYX3.out.keep hb4)
      have HQ4 := Lib.hid (HSM3.out w4 (HX3.out.keep hb4))
      clear hb4 x0 x1 x2 y0 y1 y2 HQ
      have x0 := HYX4.out.c0
      have x1 := HYX4.out.c1
      have x2 := HYX4.out.c2
      go_wp2_with fail
      refine HQ4.out.mono ?_
      rintro e w5 ⟨rfl, hb5⟩
      have HB5 := Lib.hid (HB4.out.trans (hb5.mono HB4.out.size))
      clear hb5
      go_wp2
      go_ret
      exact ⟨rfl, HB5.out⟩
end Mod
end Go.Proofs.YtkhkcfbacnkcnaaDoor
/- The laws' arguments, as they are read, opened to lists. -/
namespace Go.Proofs.YtkhkcfbacnkcnaaDoor
open Go.RowKit Go.MapKept Go.ChangeShapes Go.WideShapes Go.Deep
namespace Crc
section
variable {H : Type} {enc : TypeId × Value → H} {W : World} {fuel : Nat} {sp : Nat → Bool} {held : Bool}

theorem cells_u8 : Tryd.prog.cellsOf 5 = 1 := by kernel_rfl
theorem cells_u64 : Tryd.prog.cellsOf 140 = 1 := by kernel_rfl
theorem cells_sl : Tryd.prog.cellsOf 23 = 1 := by kernel_rfl

theorem u8_bounds {k : Int} (h : (Lit.int .u8 k).wf = true) : 0 ≤ k ∧ k < 256 := by
  have := bounds_u8 h
  omega
theorem u64_bounds {k : Int} (h : (Lit.int .u64 k).wf = true) : 0 ≤ k ∧ k < 18446744073709551616 := by
  have := bounds_u64 h
  omega

theorem cell_lt {b o : Nat} {v : Value} (h : W.cell? ⟨b, o, none⟩ = some v) : b < W.heap.size := by
  rcases Nat.lt_or_ge b W.heap.size with h1 | h1
  · exact h1
  · simp [World.cell?, Array.getElem?_eq_none h1] at h

/-- a slice whose elements take one cell each -/
theorem open_ones {t e : TypeId} {v : Value} {x : DataW H × List MemPlace} {α : Type} (d : α) (R : α → Value → Prop) (ht : Tryd.prog.underlying t = some (.slice e)) (h1 : Tryd.prog.cellsOf e = 1)
    (hR : ∀ n u y, DataW.trod enc Tryd.prog W 0 sp held n e [u] = some y → ∃ a, R a u)
    (h : DataW.trod enc Tryd.prog W 0 sp held fuel t [v] = some x) :
    ∃ (A : Option Addr) (l : List α) (c : Nat), v = .slice A l.length c ∧ l.length ≤ c ∧ l.length ≤ 9223372036854775807 ∧ ∀ j (hj : j < l.length), ∃ b o u, A = some ⟨b, o, none⟩ ∧ b < W.heap.size ∧ W.cell? ⟨b, o + j, none⟩ = some u ∧ R l[j] u := by
  rcases open_slice1 ht h1 h with ⟨hcs, _⟩ | ⟨a, len, cap, m, n, V, D, Pl, hcs, _, hl, hm, hmm, _, hi⟩
  · simp at hcs
    exact ⟨none, [], 0, hcs, by simp, by simp, fun j hj => absurd hj (by simp)⟩
  · simp at hcs
    have hlen : len ≤ 9223372036854775807 := by unfold maxLen at hm; omega
    have hjm : ∀ i, i < len → i < m := fun i hi => by rw [hmm]; split <;> omega
    have one : ∀ i, ∃ a' : α, i < len → R a' (V i) := fun i => by
      by_cases hil : i < len
      · obtain ⟨a', ha⟩ := hR _ _ _ (hi i (hjm i hil)).2
        exact ⟨a', fun _ => ha⟩
      · exact ⟨d, fun h => absurd h hil⟩
    obtain ⟨f, hf⟩ := Classical.skolem.1 one
    refine ⟨some a, (List.range len).map f, cap, by rw [List.length_map, List.length_range]; exact hcs, by rw [List.length_map, List.length_range]; exact hl, by rw [List.length_map, List.length_range]; exact hlen, fun j hj => ?_⟩
    rw [List.length_map, List.length_range] at hj
    have hc0 := (hi 0 (hjm 0 (by omega))).1
    obtain ⟨b, o, spot⟩ := a
    have hspot : spot = none := by simpa [Addr.add] using World.cell?_spot hc0
    subst hspot
    have hc := (hi j (hjm j hj)).1
    rw [add_plain] at hc
    refine ⟨b, o, V j, rfl, cell_lt hc, hc, ?_⟩
    rw [List.getElem_map, List.getElem_range]
    exact hf j hj

theorem open_bytes {v : Value} {x : DataW H × List MemPlace} (h : DataW.trod enc Tryd.prog W 0 sp held fuel 23 [v] = some x) : ∃ A l c, v = .slice A l.length c ∧ l.length ≤ c ∧ Bts W A l := by
  obtain ⟨A, l, c, e, hc, hl, ha⟩ := open_ones (α := Nat) 0 (fun k u => u = .int .u8 (k : Int) ∧ k < 256) Tryd.underlying23 cells_u8 (fun n u y hu => by
    obtain ⟨k, e, _, hw⟩ := DataW.trod_int Tryd.underlying5 hu
    simp at e
    have hb := u8_bounds hw
    obtain ⟨q, rfl⟩ := Int.eq_ofNat_of_zero_le hb.1
    exact ⟨q, e, by omega⟩) h
  refine ⟨A, l, c, e, hc, fun b hb => ?_, hl, fun j hj => ?_⟩
  · obtain ⟨j, hj, rfl⟩ := List.getElem_of_mem hb
    obtain ⟨_, _, _, _, _, _, _, h2⟩ := ha j hj
    exact h2
  · obtain ⟨b, o, u, e, h1, h2, rfl, _⟩ := ha j hj
    exact ⟨b, o, e, h1, h2⟩

theorem open_parts {v : Value} {x : DataW H × List MemPlace} (h : DataW.trod enc Tryd.prog W 0 sp held fuel 91 [v] = some x) : ∃ A ps c, v = .slice A ps.length c ∧ Pts W A ps := by
  obtain ⟨A, ps, c, e, hc, hl, ha⟩ := open_ones (α := Prt) ⟨none, 0, []⟩ (fun q u => u = .slice q.a q.l.length q.c ∧ Bts W q.a q.l) Tryd.underlying91 cells_sl (fun n u y hu => by
    obtain ⟨B, l, c, e, _, hb⟩ := open_bytes hu
    exact ⟨⟨B, c, l⟩, e, hb⟩) h
  refine ⟨A, ps, c, e, hl, fun j hj => ?_, fun j hj => ?_⟩
  · obtain ⟨b, o, u, e, h1, h2, rfl, _⟩ := ha j hj
    exact ⟨b, o, e, h1, h2⟩
  · obtain ⟨_, _, _, _, _, _, _, h2⟩ := ha j hj
    exact h2
end
end Crc

theorem laidOut_try : laidOutB Tryd.prog = true := by kernel_rfl
theorem ownKnob_none : ownKnob Tryd.prog.godebug = none := by kernel_rfl
end Go.Proofs.YtkhkcfbacnkcnaaDoor
/- A start that meets the rows' condition: the library's tables unicode/utf8.first and acceptRanges as they are laid; arguments that are names. -/
namespace Go.Proofs.YtkhkcfbacnkcnaaDoor
open Go.RowKit Go.MapKept Go.ChangeShapes Go.WideShapes Go.ChangeAt Go.Deep

abbrev lst : List (String × DataW Unit) := [("unicode/utf8.acceptRanges", Rows.laid_unicode_utf8_acceptRanges), ("unicode/utf8.first", Rows.laid_unicode_utf8_first)]

/-- a start with both tables meets the condition -/
theorem door_met (os : Os) (args : Array Value) : laidMetH Tryd.prog lst ((World.laidAll Tryd.prog os lst).forCall (fun _ _ => 0) ⟨#[], args, []⟩).memory := by
  rw [MakeChecks.laidMetH_plain _ _ _ (by kernel_rfl)]
  exact laidMet_laidAll _ (by kernel_rfl) (by kernel_rfl)

namespace Pat
section
variable {H : Type} {enc : TypeId × Value → H} {W : World} {fuel : Nat} {sp : Nat → Bool} {held : Bool}
theorem open_strs {v : Value} {x : DataW H × List MemPlace} (h : DataW.trod enc Tryd.prog W 0 sp held fuel 24 [v] = some x) : ∃ A l c, v = .slice A l.length c ∧ Txs W A l ∧ l.length ≤ c ∧ (A = none → c = 0) := by
  obtain ⟨A, l, c, e, hc, hl, ha⟩ := Crc.open_ones (α := ByteArray) ByteArray.empty (fun s u => u = .string s ∧ s.size ≤ 9223372036854775807) Tryd.underlying24 (by kernel_rfl) (fun n u y hu => by
    obtain ⟨s, e, _, hw⟩ := DataW.trod_string Tryd.underlying9 hu
    simp at e
    exact ⟨s, e, by unfold maxLen at hw; omega⟩) h
  refine ⟨A, l, c, e, ⟨fun s hs => ?_, hl, fun j hj => ?_⟩, hc, ?_⟩
  · obtain ⟨j, hj, rfl⟩ := List.getElem_of_mem hs
    obtain ⟨_, _, _, _, _, _, _, h2⟩ := ha j hj
    exact h2
  · obtain ⟨b, o, u, e, h1, h2, rfl, _⟩ := ha j hj
    exact ⟨b, o, e, h1, h2⟩
  · rintro rfl
    subst e
    rcases Go.Deep.open_slice1 Tryd.underlying24 (by kernel_rfl) h with ⟨hcs, _⟩ | ⟨a, len, cap, m, n, V, D, Pl, hcs, _⟩
    · simp at hcs
      omega
    · simp at hcs
end
end Pat
end Go.Proofs.YtkhkcfbacnkcnaaDoor
/- The laws' arguments, as they are read, opened to cells: items. -/
namespace Go.Proofs.YtkhkcfbacnkcnaaDoor
open Go.RowKit Go.MapKept Go.ChangeShapes Go.WideShapes Go.ChangeAt Go.Deep
namespace Trk
open Tre (It Its)
section
variable {H : Type} {enc : TypeId × Value → H} {W : World} {fuel : Nat} {sp : Nat → Bool} {held : Bool}
theorem open_bytes0 {v : Value} {x : DataW H × List MemPlace} (h : DataW.trod enc Tryd.prog W 0 sp held fuel 23 [v] = some x) : ∃ A l c, v = .slice A l.length c ∧ l.length ≤ c ∧ Crc.Bts W A l ∧ (A = none → c = 0) := by
  obtain ⟨A, l, c, e, hc, hb⟩ := Crc.open_bytes h
  refine ⟨A, l, c, e, hc, hb, ?_⟩
  rintro rfl
  subst e
  rcases Go.Deep.open_slice1 Tryd.underlying23 (by kernel_rfl) h with ⟨hcs, _⟩ | ⟨a, len, cap, m, n, V, D, Pl, hcs, _⟩
  · simp at hcs
    omega
  · simp at hcs
end
end Trk
end Go.Proofs.YtkhkcfbacnkcnaaDoor
