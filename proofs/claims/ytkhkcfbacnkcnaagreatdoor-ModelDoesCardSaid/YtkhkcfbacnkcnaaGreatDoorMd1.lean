/- Texts laid together: ModWant, ModEqual, TrkPlays, ModDoesLaw. -/
import Derived.Test.YtkhkcfbacnkcnaaGreatDoorMc8
import Derived.Test.YtkhkcfbacnkcnaaGreatDoorMc6
import Derived.Test.YtkhkcfbacnkcnaaGreatDoorMc2
import Derived.Test.YtkhkcfbacnkcnaaGreatDoorMc7
import Derived.Test.YtkhkcfbacnkcnaaGreatDoorMc9
import Derived.Test.YtkhkcfbacnkcnaaGreatDoorMc1
import Derived.Test.YtkhkcfbacnkcnaaGreatDoorMc3
import Derived.Test.YtkhkcfbacnkcnaaGreatDoorMc4
import Derived.Test.YtkhkcfbacnkcnaaGreatDoorMc5
/- Law 14's Want: what the document answers of a deed. -/
namespace Go.Proofs.YtkhkcfbacnkcnaaGreatDoor
open Go.RowKit Go.MapKept
namespace Mod
open Tre (Nm Th Tg Ths ths tv Apart doT Fr DoR)
open Trk (Chg)
open Pat (Txs)

/-- the answer of Want: a tree; a number, a text, names -/
def WantR (w : World) (A0 : Option Addr) (l0 : List Tg) (r : List Th × Int × ByteArray × List ByteArray) (e : Ending) (w' : World) : Prop :=
  ∃ (A : Option Addr) (c : Nat) (l : List Tg) (G : Option Addr) (gc : Nat), e = .returned (.tuple #[tv A l.length c, .agg #[.int .i64 r.2.1, .string r.2.2.1, .slice G r.2.2.2.length gc]]) ∧ Ths w' A l ∧ ths l = r.1 ∧ (A = none → c = 0) ∧ l.length ≤ c ∧ (Txs w' G r.2.2.2 ∧ Fr w G) ∧ Below w.heap.size w w' ∧ ∀ b, b < w.heap.size → Apart b A0 l0 → Apart b A l
/-- a box that was just made, behind a call -/
structure Kb (w : World) (b : Nat) (v : Value) : Prop where
  lt : b < w.heap.size
  c : w.cell? ⟨b, 0, none⟩ = some v
  f : w.frozen? ⟨b, 0, none⟩ = false
theorem kb_new {w w3 : World} {v : Value} {t : TypeId} (hb : Below (w.alloc (.cells #[v] t)).heap.size (w.alloc (.cells #[v] t)) w3) : Kb w3 w.heap.size v := by
  have r := World.rowIs_alloc w #[v] t (fun _ => v) (fun j hj => by
    have : j < 1 := hj
    match j, this with
    | 0, _ => rfl)
  have h0 : w.heap.size < (w.alloc (.cells #[v] t)).heap.size := by simp
  exact ⟨Nat.lt_of_lt_of_le h0 hb.size, (hb.cell (p := ⟨w.heap.size, 0, none⟩) h0).trans (r.cell (by simp)), (hb.frozen (p := ⟨w.heap.size, 0, none⟩) h0).trans (r.frozen 0)⟩
theorem Kb.keep {w w3 : World} {b : Nat} {v : Value} (h : Kb w b v) (hb : Below w.heap.size w w3) : Kb w3 b v :=
  ⟨Nat.lt_of_lt_of_le h.lt hb.size, (hb.cell (p := ⟨b, 0, none⟩) h.lt).trans h.c, (hb.frozen (p := ⟨b, 0, none⟩) h.lt).trans h.f⟩
/-- the boxes of Want's arguments, and its answers' -/
abbrev bxW (w : World) (A : Option Addr) (q c : Nat) (k : Int) (p : ByteArray) (x n : Int) (B : Option Addr) (m d : Nat) : World := (((w.alloc (.cells #[.slice A q c] 29)).alloc (.cells #[.int .i64 k, .string p, .int .i64 x, .int .i64 n, .slice B m d] 58)).alloc (.cells #[.slice none 0 0] 29)).alloc (.cells #[.int .i64 0, .string ⟨#[]⟩, .slice none 0 0] 60)
/-- what lies in them -/
structure WB (w : World) (b b1 b2 b3 : Nat) (A : Option Addr) (q c : Nat) (k : Int) (p : ByteArray) (x n : Int) (B : Option Addr) (m d : Nat) : Prop where
  o1 : b < b1
  o2 : b1 < b2
  o3 : b2 < b3
  lt : b3 < w.heap.size
  t : w.cell? ⟨b, 0, none⟩ = some (.slice A q c)
  d0 : w.cell? ⟨b1, 0, none⟩ = some (.int .i64 k)
  d1 : w.cell? ⟨b1, 1, none⟩ = some (.string p)
  d2 : w.cell? ⟨b1, 2, none⟩ = some (.int .i64 x)
  d3 : w.cell? ⟨b1, 3, none⟩ = some (.int .i64 n)
  d4 : w.cell? ⟨b1, 4, none⟩ = some (.slice B m d)
  r : w.cell? ⟨b2, 0, none⟩ = some (.slice none 0 0)
  rf : w.frozen? ⟨b2, 0, none⟩ = false
  a0 : w.cell? ⟨b3, 0, none⟩ = some (.int .i64 0)
  a1 : w.cell? ⟨b3, 1, none⟩ = some (.string ⟨#[]⟩)
  a2 : w.cell? ⟨b3, 2, none⟩ = some (.slice none 0 0)
  f0 : w.frozen? ⟨b3, 0, none⟩ = false
  f1 : w.frozen? ⟨b3, 1, none⟩ = false
  f2 : w.frozen? ⟨b3, 2, none⟩ = false
section
variable {w w' : World} {b b1 b2 b3 q c m d : Nat} {A B : Option Addr} {k x n : Int} {p : ByteArray}
theorem WB.keep (h : WB w b b1 b2 b3 A q c k p x n B m d) (hb : Below w.heap.size w w') : WB w' b b1 b2 b3 A q c k p x n B m d := by
  have hl := h.lt
  have o1 := h.o1
  have o2 := h.o2
  have o3 := h.o3
  have k0 : ∀ i j v, i < w.heap.size → w.cell? ⟨i, j, none⟩ = some v → w'.cell? ⟨i, j, none⟩ = some v := fun i j v hi hv => (hb.cell (p := ⟨i, j, none⟩) hi).trans hv
  have f0 : ∀ i j v, i < w.heap.size → w.frozen? ⟨i, j, none⟩ = v → w'.frozen? ⟨i, j, none⟩ = v := fun i j v hi hv => (hb.frozen (p := ⟨i, j, none⟩) hi).trans hv
  exact ⟨o1, o2, o3, Nat.lt_of_lt_of_le hl hb.size, k0 _ _ _ (by omega) h.t, k0 _ _ _ (by omega) h.d0, k0 _ _ _ (by omega) h.d1, k0 _ _ _ (by omega) h.d2, k0 _ _ _ (by omega) h.d3, k0 _ _ _ (by omega) h.d4, k0 _ _ _ (by omega) h.r, f0 _ _ _ (by omega) h.rf, k0 _ _ _ hl h.a0, k0 _ _ _ hl h.a1, k0 _ _ _ hl h.a2, f0 _ _ _ hl h.f0, f0 _ _ _ hl h.f1, f0 _ _ _ hl h.f2⟩
/-- both answers stored -/
abbrev wSet (w : World) (b2 b3 : Nat) (v v0 v1 v2 : Value) : World := (((w.setCell ⟨b2, 0, none⟩ v).setCell ⟨b3, 0, none⟩ v0).setCell ⟨b3, 1, none⟩ v1).setCell ⟨b3, 2, none⟩ v2
theorem wset_cells (h : WB w b b1 b2 b3 A q c k p x n B m d) (v v0 v1 v2 : Value) : (wSet w b2 b3 v v0 v1 v2).cell? ⟨b2, 0, none⟩ = some v ∧ (wSet w b2 b3 v v0 v1 v2).cell? ⟨b3, 0, none⟩ = some v0 ∧ (wSet w b2 b3 v v0 v1 v2).cell? ⟨b3, 1, none⟩ = some v1 ∧ (wSet w b2 b3 v v0 v1 v2).cell? ⟨b3, 2, none⟩ = some v2 := by
  have ne := h.o3
  have o : ∀ (W : World) (i1 j1 i2 j2 : Nat) (u z : Value), (i1 ≠ i2 ∨ j1 ≠ j2) → W.cell? ⟨i2, j2, none⟩ = some z → (W.setCell ⟨i1, j1, none⟩ u).cell? ⟨i2, j2, none⟩ = some z := fun W i1 j1 i2 j2 u z hne hz => by
    rw [World.cell?_setCell_other _ _ _ _ (fun e => by injection e with e1 e2; omega)]
    exact hz
  refine ⟨?_, ?_, ?_, ?_⟩
  · exact o _ _ _ _ _ _ _ (.inl (by omega)) (o _ _ _ _ _ _ _ (.inl (by omega)) (o _ _ _ _ _ _ _ (.inl (by omega)) (World.cell?_setCell_same _ _ _ h.r)))
  · exact o _ _ _ _ _ _ _ (.inr (by decide)) (o _ _ _ _ _ _ _ (.inr (by decide)) (World.cell?_setCell_same _ _ _ (o _ _ _ _ _ _ _ (.inl (by omega)) h.a0)))
  · exact o _ _ _ _ _ _ _ (.inr (by decide)) (World.cell?_setCell_same _ _ _ (o _ _ _ _ _ _ _ (.inr (by decide)) (o _ _ _ _ _ _ _ (.inl (by omega)) h.a1)))
  · exact World.cell?_setCell_same _ _ _ (o _ _ _ _ _ _ _ (.inr (by decide)) (o _ _ _ _ _ _ _ (.inr (by decide)) (o _ _ _ _ _ _ _ (.inl (by omega)) h.a2)))
theorem chg_wset (w : World) (b2 b3 : Nat) (v v0 v1 v2 : Value) : Chg (fun i => i = b2 ∨ i = b3) w (wSet w b2 b3 v v0 v1 v2) :=
  (((chg_weak (Trk.chg_set w b2 0 v) (fun _ h => .inl h)).trans (Trk.chg_set _ b3 0 v0) (fun _ h => .inl (.inr h))).trans (Trk.chg_set _ b3 1 v1) (fun _ h => .inl (.inr h))).trans (Trk.chg_set _ b3 2 v2) (fun _ h => .inl (.inr h))
end
theorem row_fr (w : World) (vs : Array Value) (t : TypeId) (j : Nat) : (w.alloc (.cells vs t)).frozen? ⟨w.heap.size, j, none⟩ = false := frozen_of_row _ _ _ vs t (heap_alloc_new w _)
theorem wb_new (w : World) (A : Option Addr) (q c : Nat) (k : Int) (p : ByteArray) (x n : Int) (B : Option Addr) (m d : Nat) : WB (bxW w A q c k p x n B m d) w.heap.size (w.heap.size + 1) (w.heap.size + 2) (w.heap.size + 3) A q c k p x n B m d := by
  have s1 : (w.alloc (.cells #[.slice A q c] 29)).heap.size = w.heap.size + 1 := by simp
  have s2 : ((w.alloc (.cells #[.slice A q c] 29)).alloc (.cells #[.int .i64 k, .string p, .int .i64 x, .int .i64 n, .slice B m d] 58)).heap.size = w.heap.size + 2 := by simp
  have s3 : (((w.alloc (.cells #[.slice A q c] 29)).alloc (.cells #[.int .i64 k, .string p, .int .i64 x, .int .i64 n, .slice B m d] 58)).alloc (.cells #[.slice none 0 0] 29)).heap.size = w.heap.size + 3 := by simp
  have o : ∀ (W : World) (ob : Obj) (i j : Nat) (v : Value), i < W.heap.size → W.cell? ⟨i, j, none⟩ = some v → (W.alloc ob).cell? ⟨i, j, none⟩ = some v := fun W ob i j v hi hv => by
    rw [World.cell?_alloc_old _ _ _ (by simp only; omega)]
    exact hv
  have of : ∀ (W : World) (ob : Obj) (i j : Nat) (v : Bool), i < W.heap.size → W.frozen? ⟨i, j, none⟩ = v → (W.alloc ob).frozen? ⟨i, j, none⟩ = v := fun W ob i j v hi hv => ((((Below.refl W.heap.size W).alloc (Nat.le_refl _) ob)).frozen (p := ⟨i, j, none⟩) hi).trans hv
  have a : ∀ (W : World) (i : Nat) (vs : Array Value) (t : TypeId) (j : Nat) (v : Value), W.heap.size = i → vs[j]? = some v → (W.alloc (.cells vs t)).cell? ⟨i, j, none⟩ = some v := fun W i vs t j v hi hv => by
    subst hi
    rw [Crc.alloc_cell]
    exact hv
  have fz : ∀ (W : World) (i : Nat) (vs : Array Value) (t : TypeId) (j : Nat), W.heap.size = i → (W.alloc (.cells vs t)).frozen? ⟨i, j, none⟩ = false := fun W i vs t j hi => by
    subst hi
    exact row_fr W vs t j
  refine ⟨by omega, by omega, by omega, by simp, ?_, ?_, ?_, ?_, ?_, ?_, ?_, ?_, ?_, ?_, ?_, ?_, ?_, ?_⟩
  · exact o _ _ _ _ _ (by omega) (o _ _ _ _ _ (by omega) (o _ _ _ _ _ (by omega) (a _ _ _ _ 0 _ rfl rfl)))
  · exact o _ _ _ _ _ (by omega) (o _ _ _ _ _ (by omega) (a _ _ _ _ 0 _ s1 rfl))
  · exact o _ _ _ _ _ (by omega) (o _ _ _ _ _ (by omega) (a _ _ _ _ 1 _ s1 rfl))
  · exact o _ _ _ _ _ (by omega) (o _ _ _ _ _ (by omega) (a _ _ _ _ 2 _ s1 rfl))
  · exact o _ _ _ _ _ (by omega) (o _ _ _ _ _ (by omega) (a _ _ _ _ 3 _ s1 rfl))
  · exact o _ _ _ _ _ (by omega) (o _ _ _ _ _ (by omega) (a _ _ _ _ 4 _ s1 rfl))
  · exact o _ _ _ _ _ (by omega) (a _ _ _ _ 0 _ s2 rfl)
  · exact of _ _ _ _ _ (by omega) (fz _ _ _ _ 0 s2)
  · exact a _ _ _ _ 0 _ s3 rfl
  · exact a _ _ _ _ 1 _ s3 rfl
  · exact a _ _ _ _ 2 _ s3 rfl
  · exact fz _ _ _ _ 0 s3
  · exact fz _ _ _ _ 1 s3
  · exact fz _ _ _ _ 2 s3

/-- behind Do, which was called at W -/
structure WZ (w1 W w3 : World) (b b1 b2 b3 : Nat) (A : Option Addr) (q c : Nat) (k : Int) (p : ByteArray) (x n : Int) (B : Option Addr) (m d : Nat) (l : List Tg) (r : List Th × Int × ByteArray × List ByteArray) (A2 : Option Addr) (c2 : Nat) (l2 : List Tg) (G2 : Option Addr) : Prop where
  t : Ths w3 A2 l2
  e : ths l2 = r.1
  nl : A2 = none → c2 = 0
  cp : l2.length ≤ c2
  tx : Txs w3 G2 r.2.2.2
  g : ∀ a, G2 = some a → W.heap.size ≤ a.block
  below1 : Below w1.heap.size w1 W
  below2 : Below W.heap.size W w3
  ap : ∀ i, i < W.heap.size → Apart i A l → Apart i A2 l2
  wb : WB w3 b b1 b2 b3 A q c k p x n B m d
/-- and its answers in their variables, the tree's box bx -/
structure WE (w1 wx : World) (b b1 b2 b3 : Nat) (A : Option Addr) (q c : Nat) (k : Int) (p : ByteArray) (x n : Int) (B : Option Addr) (m d : Nat) (l : List Tg) (r : List Th × Int × ByteArray × List ByteArray) (A2 : Option Addr) (c2 : Nat) (l2 : List Tg) (G2 : Option Addr) (bx : Nat) : Prop where
  t : Ths wx A2 l2
  e : ths l2 = r.1
  nl : A2 = none → c2 = 0
  cp : l2.length ≤ c2
  tx : Txs wx G2 r.2.2.2
  g : ∀ a, G2 = some a → w1.heap.size ≤ a.block
  below : Below w1.heap.size w1 wx
  ap : ∀ i, i < w1.heap.size → Apart i A l → Apart i A2 l2
  wb : WB wx b b1 b2 b3 A q c k p x n B m d
  bc : wx.cell? ⟨bx, 0, none⟩ = some (.slice A2 l2.length c2)
  bl : bx < wx.heap.size
section
variable {w1 W w3 : World} {b b1 b2 b3 q c m d c2 : Nat} {A B A2 G2 : Option Addr} {k x n : Int} {p : ByteArray} {l l2 : List Tg} {r : List Th × Int × ByteArray × List ByteArray}
theorem WZ.new (h : WZ w1 W w3 b b1 b2 b3 A q c k p x n B m d l r A2 c2 l2 G2) (t : TypeId) : WE w1 (w3.alloc (.cells #[.slice A2 l2.length c2] t)) b b1 b2 b3 A q c k p x n B m d l r A2 c2 l2 G2 w3.heap.size := by
  have hz := (Below.refl w3.heap.size w3).alloc (Nat.le_refl _) (.cells #[.slice A2 l2.length c2] t)
  have hb := h.below1.trans (h.below2.mono h.below1.size)
  exact ⟨h.t.keep hz, h.e, h.nl, h.cp, h.tx.keep hz, fun a e => Nat.le_trans h.below1.size (h.g a e), hb.trans (hz.mono hb.size), fun i hi ha => h.ap i (Nat.lt_of_lt_of_le hi h.below1.size) ha, h.wb.keep hz, Crc.alloc_cell w3 _ t 0, by simp⟩
theorem WZ.put (h : WZ w1 W w3 b b1 b2 b3 A q c k p x n B m d l r A2 c2 l2 G2) {bx : Nat} {v : Value} (hk : Kb w3 bx v) (h1 : bx < W.heap.size) (h2 : w1.heap.size ≤ bx) (h3 : b3 < w1.heap.size) (ha : ∀ i, w1.heap.size ≤ i → Apart i A l) : WE w1 (w3.setCell ⟨bx, 0, none⟩ (.slice A2 l2.length c2)) b b1 b2 b3 A q c k p x n B m d l r A2 c2 l2 G2 bx := by
  have hb := h.below1.trans (h.below2.mono h.below1.size)
  have hc := Trk.chg_set w3 bx 0 (.slice A2 l2.length c2)
  have hbs := hb.setCell (p := ⟨bx, 0, none⟩) h2 (.slice A2 l2.length c2)
  have hw := h.wb
  have o1 := hw.o1
  have o2 := hw.o2
  have o3 := hw.o3
  have k0 : ∀ i j v, i < bx → w3.cell? ⟨i, j, none⟩ = some v → (w3.setCell ⟨bx, 0, none⟩ (.slice A2 l2.length c2)).cell? ⟨i, j, none⟩ = some v := fun i j v hi hv => by
    rw [World.cell?_setCell_other _ _ _ _ (fun e => by injection e with e; omega)]
    exact hv
  have f0 : ∀ i j v, w3.frozen? ⟨i, j, none⟩ = v → (w3.setCell ⟨bx, 0, none⟩ (.slice A2 l2.length c2)).frozen? ⟨i, j, none⟩ = v := fun i j v hv => (World.frozen?_setCell _ _ _ _).trans hv
  refine ⟨Tre.ths_set h.t (h.ap bx h1 (ha bx h2)) 0 _, h.e, h.nl, h.cp, Tre.txs_set h.tx (fun a e => by have := h.g a e; omega) 0 _, fun a e => Nat.le_trans h.below1.size (h.g a e), hbs, fun i hi hi2 => h.ap i (Nat.lt_of_lt_of_le hi h.below1.size) hi2, ?_, World.cell?_setCell_same _ _ _ hk.c, by simpa [World.setCell] using hk.lt⟩
  exact ⟨o1, o2, o3, by simpa [World.setCell] using hw.lt, k0 _ _ _ (by omega) hw.t, k0 _ _ _ (by omega) hw.d0, k0 _ _ _ (by omega) hw.d1, k0 _ _ _ (by omega) hw.d2, k0 _ _ _ (by omega) hw.d3, k0 _ _ _ (by omega) hw.d4, k0 _ _ _ (by omega) hw.r, f0 _ _ _ hw.rf, k0 _ _ _ (by omega) hw.a0, k0 _ _ _ (by omega) hw.a1, k0 _ _ _ (by omega) hw.a2, f0 _ _ _ hw.f0, f0 _ _ _ hw.f1, f0 _ _ _ hw.f2⟩
end

set_option maxRecDepth 100000 in
set_option maxHeartbeats 4000000 in
theorem want_any (w : World) (A : Option Addr) (c q : Nat) (k : Int) (l : List Tg) (p : ByteArray) (x n : Int) (B : Option Addr) (bs : List Nat) (m d : Nat) (hq : l.length = q) (h : Ths w A l) (hp : p.size < 4294967281) (hA : A = none → c = 0) (hc : q ≤ c) (hl : q ≤ 100000) (hm : bs.length = m) (hB : Crc.Bts w B bs) (hv : m ≤ 1000000) (hdat : ∀ g ∈ l, g.2.2.2.2.size ≤ 1000000000) :
    Calls Tryz.prog 23 #[tv A q c, .agg #[.int .i64 k, .string p, .int .i64 x, .int .i64 n, .slice B m d]] w (WantR w A l (doM (ths l) k p x n (Crc.str bs))) := by
  have hb0 : Below w.heap.size w (bxW w A q c k p x n B m d) := (((((Below.refl w.heap.size w).alloc (Nat.le_refl _) _).alloc (by simp) _).alloc (by simp; omega) _).alloc (by simp; omega) _)
  have HB0 := Lib.hid hb0
  have HW := Lib.hid (wb_new w A q c k p x n B m d)
  obtain ⟨b, hb⟩ : ∃ b, b = w.heap.size := ⟨_, rfl⟩
  obtain ⟨b1, hb1⟩ : ∃ b1, b1 = b + 1 := ⟨_, rfl⟩
  obtain ⟨b2, hb2⟩ : ∃ b2, b2 = b1 + 1 := ⟨_, rfl⟩
  obtain ⟨b3, hb3⟩ : ∃ b3, b3 = b2 + 1 := ⟨_, rfl⟩
  rw [← hb, show b + 2 = b2 by omega, show b + 3 = b3 by omega, ← hb1] at HW
  have HS := Lib.hid (show (bxW w A q c k p x n B m d).heap.size = b3 + 1 ∧ b = w.heap.size ∧ b < b2 ∧ b < b3 from ⟨by rw [hb3, hb2, hb1, hb]; simp, hb, by omega, by omega⟩)
  have HT := Lib.hid (h.keep hb0)
  have HBT := Lib.hid (hB.keep hb0)
  have HQ := Lib.hid hq
  have HH := Lib.hid h
  clear hb0 h hB hq
  go_enter Tryz.func23, Tryz.ntmps23
  go_upto_region 1 with fail
  rw [← hb, ← hb1, ← hb2, ← hb3]
  generalize hw1 : bxW w A q c k p x n B m d = w1 at *
  rw [show (((w.alloc (.cells #[.slice A q c] 29)).alloc (.cells #[.int .i64 k, .string p, .int .i64 x, .int .i64 n, .slice B m d] 58)).alloc (.cells #[.slice none 0 0] 29)).alloc (.cells #[.int .i64 0, .string ⟨#[]⟩, .slice none 0 0] 60) = w1 from hw1]
  clear hw1 hb hb1 hb2 hb3
  have HFIN := Lib.hid (fun (wc w3 : World) (A' : Option Addr) (c' : Nat) (l' : List Tg) (G : Option Addr) (gc : Nat) (r : List Th × Int × ByteArray × List ByteArray) (hc1 : Chg (fun i => i = b2 ∨ i = b3) wc w3) (hb : Below w1.heap.size w1 wc) (ht : Ths wc A' l') (hl : ths l' = r.1) (hA : A' = none → c' = 0) (hc : l'.length ≤ c') (hn : Txs wc G r.2.2.2) (hGb : ∀ a, G = some a → w1.heap.size ≤ a.block) (hap : ∀ b, b < w1.heap.size → Apart b A l → Apart b A' l') => show WantR w A l r (.returned (.tuple #[tv A' l'.length c', .agg #[.int .i64 r.2.1, .string r.2.2.1, .slice G r.2.2.2.length gc]])) w3 from by
    have hs := HS.out.1
    have h2 : Apart b2 A' l' := hap b2 (by have := HW.out.o3; omega) (HH.out.apart (by have := HS.out.2; omega))
    have h3 : Apart b3 A' l' := hap b3 (by omega) (HH.out.apart (by have := HS.out.2; omega))
    have ht2 := Trk.ths_chg ht hc1 (fun i hi => by rcases hi with rfl | rfl; exact h2; exact h3)
    have hn2 := Trk.txs_chg hn hc1 (fun a e _ hf => by have := hGb a e; rcases hf with h | h <;> (have := HW.out.o3; omega))
    have hb4 := HB0.out.trans (hb.mono HB0.out.size)
    have hb5 := hb4.trans (hc1.below hb4.size (fun i hi => by have := HS.out.2; rcases hi with rfl | rfl <;> omega))
    exact ⟨A', c', l', G, gc, rfl, ht2, hl, hA, hc, ⟨hn2, fun a e => Nat.le_trans HB0.out.size (hGb a e)⟩, hb5, fun i hi ha => hap i (Nat.lt_of_lt_of_le hi HB0.out.size) ha⟩)
  have t0 := HW.out.t
  have k0 := HW.out.d0
  have k1 := HW.out.d1
  have k2 := HW.out.d2
  have k3 := HW.out.d3
  have k4 := HW.out.d4
  by_cases hk : 0 ≤ k ∧ k ≤ 7
  · have HD := Lib.hid (show doM (ths l) k p x n (Crc.str bs) = doT (ths l) (kq k) p x n (Crc.str bs) from by
      unfold doM
      rw [if_pos hk, show kq k = k.toNat by unfold kq; omega])
    have h1 : (k < 0) = False := eq_false (by omega)
    have h2 : (7 < k) = False := eq_false (by omega)
    clear hk
    have HACT := Lib.hid (fun W => act_any W k x n (kq k) m d p B (u8_kq k))
    have HDO := Lib.hid (fun (W : World) (hb1 : Below w1.heap.size w1 W) => show Calls Tryz.prog 10 #[tv A q c, .agg #[.int .u8 (kq k : Int), .string p, .int .i64 x, .int .i64 n, .slice B m d]] W (fun e w3 => ∃ A2 c2 l2 G2 g2, e = .returned (.tuple #[tv A2 l2.length c2, .int .i64 (doM (ths l) k p x n (Crc.str bs)).2.1, .string (doM (ths l) k p x n (Crc.str bs)).2.2.1, .slice G2 (doM (ths l) k p x n (Crc.str bs)).2.2.2.length g2]) ∧ WZ w1 W w3 b b1 b2 b3 A q c k p x n B m d l (doM (ths l) k p x n (Crc.str bs)) A2 c2 l2 G2) from by
      rw [HD.out]
      refine (Tre.do_any W A c q (kq k) l p x n B bs m d HQ.out (HT.out.keep hb1) hp hA hc hl hm (HBT.out.keep hb1) hv hdat).mono (fun e w3 hd => ?_)
      obtain ⟨A2, c2, l2, G2, g2, he, ht2, hl2, hA2, hc2, hn2, hb2, hap2⟩ := hd
      have hb3 := hb1.trans (hb2.mono hb1.size)
      exact ⟨A2, c2, l2, G2, g2, he, ht2, hl2, hA2, hc2, hn2.1, hn2.2, hb1, hb2, hap2, HW.out.keep hb3⟩)
    have HAPT := Lib.hid (show ∀ i, w1.heap.size ≤ i → Apart i A l from fun i hi => HH.out.apart (Nat.le_trans HB0.out.size hi))
    generalize doM (ths l) k p x n (Crc.str bs) = r at *
    clear HD hdat
    go_upto_region 3 with fail
    have hl0 : b < w1.heap.size := by have := HW.out.lt; have := HW.out.o1; have := HW.out.o2; have := HW.out.o3; omega
    have hl1 : b1 < w1.heap.size := by have := HW.out.lt; have := HW.out.o2; have := HW.out.o3; omega
    go_cut [6, 7, 8, 9] (fun s6 s7 s8 s9 wx => ∃ (bx : Nat) (A2 : Option Addr) (c2 : Nat) (l2 : List Tg) (G2 : Option Addr) (g2 : Nat), s6 = .pointer (some ⟨bx, 0, none⟩) ∧ s7 = .int .i64 r.2.1 ∧ s8 = .string r.2.2.1 ∧ s9 = .slice G2 r.2.2.2.length g2 ∧ WE w1 wx b b1 b2 b3 A q c k p x n B m d l r A2 c2 l2 G2 bx)
    case first =>
      go_region_with (first
        | (go_at_call 56
           refine (HACT.out _).mono ?_
           rintro e w2 ⟨rfl, hb2⟩
           have hbw2 : Below w1.heap.size w1 w2 := by first | exact Tre.below_drew hb2 | exact ((Below.refl w1.heap.size w1).alloc (Nat.le_refl _) _).trans ((Tre.below_drew hb2).mono (by simp))
           have hw2 := HW.out.keep hbw2
           have q0 := hw2.t
           have q1 := hw2.d0
           have q2 := hw2.d1
           have q3 := hw2.d2
           have q4 := hw2.d3
           have q5 := hw2.d4
           have q6 : b < w2.heap.size := Nat.lt_of_lt_of_le hl0 hbw2.size
           have q7 : b1 < w2.heap.size := Nat.lt_of_lt_of_le hl1 hbw2.size
           have Q8 := Lib.hid hbw2.size
           have hdo2 := HDO.out w2 hbw2
           have hdo3 := HDO.out (w2.alloc (.cells #[.slice none 0 0] 29)) (hbw2.alloc hbw2.size _)
           first | (have HKX := Lib.hid (kb_new (Tre.below_drew hb2))) | skip
           clear hb2 hbw2 hw2)
        | (go_at_call 10
           with_reducible refine Calls.mono (by assumption) ?_
           rintro e w3 ⟨A2, c2, l2, G2, g2, rfl, hz⟩
           first | (have HKY := Lib.hid (kb_new hz.below2)) | (have HKY := Lib.hid (HKX.out.keep hz.below2)) | skip
           first | (have y0 := HKY.out.lt; have y1 := HKY.out.c; have y2 := HKY.out.f) | skip
           have s0 := hz.wb.t
           have s1 := hz.wb.d0
           have s2 := hz.wb.d1
           have s3 := hz.wb.d2
           have s4 := hz.wb.d3
           have s5 := hz.wb.d4
           have s6 : b < w3.heap.size := by have := hz.wb.lt; have := hz.wb.o1; have := hz.wb.o2; have := hz.wb.o3; omega
           have s7 : b1 < w3.heap.size := by have := hz.wb.lt; have := hz.wb.o2; have := hz.wb.o3; omega
           have HZ := Lib.hid hz
           clear hz))
      all_goals
        go_wp2
        go_meet
        first
        | exact ⟨_, A2, c2, l2, G2, g2, rfl, rfl, rfl, rfl, HZ.out.new _⟩
        | exact ⟨_, A2, c2, l2, G2, g2, rfl, rfl, rfl, rfl, HZ.out.put HKY.out (by first | exact HKX.out.lt | simp) (by first | exact Nat.le_refl _ | exact Q8.out) HW.out.lt HAPT.out⟩
    case rest =>
      obtain ⟨bx, A2, c2, l2, G2, g2, rfl, rfl, rfl, rfl, hwe⟩ := hcut
      have HWE := Lib.hid hwe
      have h0 := hwe.bc
      have h1 := hwe.bl
      have h2 := hwe.wb.r
      have h3 := hwe.wb.rf
      have h4 := hwe.wb.a0
      have h5 := hwe.wb.a1
      have h6 := hwe.wb.a2
      have h7 := hwe.wb.f0
      have h8 := hwe.wb.f1
      have h9 := hwe.wb.f2
      have h10 := hwe.wb.o3
      have h11 := hwe.wb.lt
      obtain ⟨z0, z1, z2, z3⟩ := wset_cells hwe.wb (.slice A2 l2.length c2) (.int .i64 r.2.1) (.string r.2.2.1) (.slice G2 r.2.2.2.length g2)
      have HF := Lib.hid (HFIN.out wc _ A2 c2 l2 G2 g2 r (chg_wset wc b2 b3 (.slice A2 l2.length c2) (.int .i64 r.2.1) (.string r.2.2.1) (.slice G2 r.2.2.2.length g2)) hwe.below hwe.t hwe.e hwe.nl hwe.cp hwe.tx hwe.g hwe.ap)
      clear hwe
      go_wp2
      refine bodyPost_ret (v := .tuple #[tv A2 l2.length c2, .agg #[.int .i64 r.2.1, .string r.2.2.1, .slice G2 r.2.2.2.length g2]]) ?_ rfl HF.out
      simp [results, Tryz.results23, go_sem, z0, z1, z2, z3]
  · have HD := Lib.hid (show doM (ths l) k p x n (Crc.str bs) = (ths l, 1, ⟨#[]⟩, []) from by
      unfold doM
      rw [if_neg hk])
    have hkk : k < 0 ∨ 7 < k := by omega
    have h0 := HW.out.t
    have h2 := HW.out.r
    have h3 := HW.out.rf
    have h4 := HW.out.a0
    have h5 := HW.out.a1
    have h6 := HW.out.a2
    have h7 := HW.out.f0
    have h8 := HW.out.f1
    have h9 := HW.out.f2
    have h10 := HW.out.o3
    have h11 := HW.out.lt
    obtain ⟨z0, z1, z2, z3⟩ := wset_cells HW.out (.slice A q c) (.int .i64 1) (.string ⟨#[]⟩) (.slice none 0 0)
    have hf := HFIN.out w1 _ A c l none 0 (ths l, 1, ⟨#[]⟩, []) (chg_wset w1 b2 b3 (.slice A q c) (.int .i64 1) (.string ⟨#[]⟩) (.slice none 0 0)) (Below.refl _ _) HT.out rfl hA (by rw [HQ.out]; exact hc) (Pat.txs_nil _ _) (fun a e => by cases e) (fun _ _ h => h)
    rw [HQ.out] at hf
    have HF := Lib.hid (show WantR w A l (doM (ths l) k p x n (Crc.str bs)) (.returned (.tuple #[tv A q c, .agg #[.int .i64 1, .string ⟨#[]⟩, .slice none 0 0]])) (wSet w1 b2 b3 (.slice A q c) (.int .i64 1) (.string ⟨#[]⟩) (.slice none 0 0)) by rw [HD.out]; exact hf)
    clear hk hf
    by_cases hk0 : k < 0
    · clear hkk
      go_wp2
      refine bodyPost_ret (v := .tuple #[tv A q c, .agg #[.int .i64 1, .string ⟨#[]⟩, .slice none 0 0]]) ?_ rfl HF.out
      simp [results, Tryz.results23, go_sem, z0, z1, z2, z3]
    · have hk7 : 7 < k := hkk.resolve_left hk0
      have e0 : (k < 0) = False := eq_false hk0
      have e7 : (7 < k) = True := eq_true hk7
      clear hkk
      go_wp2
      refine bodyPost_ret (v := .tuple #[tv A q c, .agg #[.int .i64 1, .string ⟨#[]⟩, .slice none 0 0]]) ?_ rfl HF.out
      simp [results, Tryz.results23, go_sem, z0, z1, z2, z3]
end Mod
end Go.Proofs.YtkhkcfbacnkcnaaGreatDoor
/- Law 14's Equal, of an answer that is as is told. -/
namespace Go.Proofs.YtkhkcfbacnkcnaaGreatDoor
open Go.RowKit Go.MapKept
namespace Mod
open Tre (Nm Th)
open Pat (Txs)

set_option maxRecDepth 100000 in
set_option maxHeartbeats 4000000 in
theorem equal_yes (w : World) (y : An) (z : Int) (s : ByteArray) (nm : List ByteArray) (G : Option Addr) (gc : Nat) (hy : AnOk w y) (hG : Txs w G nm) (h1 : y.e = z) (h2 : Crc.str y.d = s) (h3 : y.n = nm) :
    Calls Tryz.prog 25 #[y.val, .agg #[.int .i64 z, .string s, .slice G nm.length gc]] w fun e w' => e = .returned (.bool true) ∧ Below w.heap.size w w' := by
  obtain ⟨ye, ya, yc, yd, yg, yk, yn⟩ := y
  simp only at h1 h2 h3
  subst h1 h3
  have hb0 := ((Below.refl w.heap.size w).alloc (Nat.le_refl _) (.cells #[.int .i64 ye, .slice ya yd.length yc, .slice yg yn.length yk] 64)).alloc (by simp) (.cells #[.int .i64 ye, .string s, .slice G yn.length gc] 60)
  have HB0 := Lib.hid hb0
  have hcx := Crc.conv_str yc (hy.bts.keep hb0)
  simp only at hcx
  rw [h2] at hcx
  have HX := Lib.hid (hy.txs.keep hb0)
  have HG := Lib.hid (hG.keep hb0)
  clear hb0 hy hG h2
  unfold An.val
  simp only at hcx HX ⊢
  generalize yd.length = dl at *
  generalize hnl : yn.length = nl at *
  have HNL := Lib.hid hnl
  clear hnl
  go_enter Tryz.func25, Tryz.ntmps25
  go_wp2_with fail
  refine (Pat.same_self _ yg G yk gc nl yn HNL.out HX.out HG.out).mono ?_
  rintro e w3 ⟨rfl, n3, hw3⟩
  have HB3 := Lib.hid (show Below w.heap.size w w3 by rw [hw3]; exact Pat.below_drewN HB0.out n3)
  clear hw3
  go_wp2
  go_ret
  exact ⟨rfl, HB3.out⟩
end Mod
end Go.Proofs.YtkhkcfbacnkcnaaGreatDoor
/- Law 13's TreePlays. -/
namespace Go.Proofs.YtkhkcfbacnkcnaaGreatDoor
open Go.RowKit Go.MapKept
namespace Trk
open Tre (Nm Th It Its Tg Ths ths tv TrR Apart Ac Acs FewA fewA doT DoR Fr)
open Pat (Txs)

theorem own_keepT {w w' : World} {B n s : Nat} {t : TypeId} {v : Value} {xs : List Value} (h : w.ownsRow B t s v n xs) (hb : Below w.heap.size w w') : w'.ownsRow B t s v n xs := own_chg h (Chg.of_below (F := fun _ => False) hb) (fun _ _ h => h)

set_option maxRecDepth 100000 in
set_option maxHeartbeats 4000000 in
theorem plays_law (w : World) (A0 : Option Addr) (n c0 : Nat) (acs : List Ac) (hI : Acs w A0 acs) (hn : acs.length = n) :
    Calls Tryz.prog 3 #[.slice A0 n c0] w fun e w' => e = .returned (.bool true) ∧ Below w.heap.size w w' := by
  have HI := Lib.hid hI
  have HN := Lib.hid hn
  have HL := Lib.hid (lives_any w)
  clear hI hn
  go_enter Tryz.func3, Tryz.ntmps3
  go_wp2_with fail
  refine HL.out.mono ?_
  rintro e w1 ⟨rfl, hb1⟩
  have HB1 := Lib.hid hb1
  have hfw := Tre.few_any w1 A0 c0 acs (HI.out.keep hb1)
  rw [HN.out] at hfw
  have HFW := Lib.hid hfw
  clear hb1 hfw
  go_wp2_with fail
  refine HFW.out.mono ?_
  rintro e w2 ⟨rfl, hb2⟩
  have HB2 := Lib.hid (HB1.out.trans (hb2.mono HB1.out.size))
  clear hb2
  by_cases hf : FewA acs
  · rw [show fewA acs = true from decide_eq_true hf]
    have HFA := Lib.hid hf
    have HN4 := Lib.hid (show n ≤ 40 by rw [← HN.out]; exact hf.2)
    clear hf
    go_wp2_with fail
    refine (new_any w2).mono ?_
    rintro e w3 ⟨rfl, hm, hb3, hs3⟩
    have HBO := Lib.hid (both_new HB2.out hm hb3 hs3 29)
    clear hm hb3 hs3
    obtain ⟨bt, hbt⟩ : ∃ bt, bt = w2.heap.size := ⟨_, rfl⟩
    obtain ⟨bw, hbw⟩ : ∃ bw, bw = w3.heap.size := ⟨_, rfl⟩
    rw [← hbt, ← hbw] at HBO
    go_wp2_with fail
    rw [← hbt, ← hbw]
    clear hbt hbw
    go_loopw [33] (fun ix wr => ∃ (j : Nat) (t : List Th) (L : Nm → Nd) (A' : Option Addr) (c' : Nat) (l : List Tg), j ≤ n ∧ ix = .int .i64 (j : Int) ∧ t.length ≤ j ∧ Both w wr j bt bw t L A' c' l) (fun ix _ => n - (intOf ix).toNat)
    case atStart => exact ⟨0, [], _, none, 0, [], Nat.zero_le _, rfl, Nat.le_refl _, HBO.out⟩
    case round =>
      obtain ⟨j, t, L, A', c', l, hj, rfl, htl, hbo⟩ := hrel
      have HBR := Lib.hid hbo
      have HTL := Lib.hid htl
      clear hbo htl HBO
      by_cases hlt : j < n
      · have hlti : j < acs.length := by rw [HN.out]; exact hlt
        obtain ⟨bi, oi, rfl, hbli, k0, k1, k2, k3, k4⟩ := (HI.out.keep HBR.out.below).at' j hlti
        have hok := HI.out.ok _ (List.getElem_mem hlti)
        have hlit := HFA.out.1 _ (List.getElem_mem hlti)
        generalize acs[j] = q at *
        obtain ⟨k, p, x, nn, ga, gc, bs⟩ := q
        simp only at k0 k1 k2 k3 k4
        obtain ⟨m, hm⟩ : ∃ m, m = bs.length := ⟨_, rfl⟩
        rw [← hm] at k4
        have HM := Lib.hid hm
        have HOK := Lib.hid hok
        have HLIT := Lib.hid (show p.size ≤ 300 ∧ m ≤ 500 from ⟨hlit.1, by rw [hm]; exact hlit.2.1⟩)
        have hj0 : (j : Int) < (n : Int) := by omega
        have hm0 : (0 : Int) ≤ (j : Int) := by omega
        clear hm hok hlit hlti
        obtain ⟨b1, hb1⟩ : ∃ b1, b1 = wr.heap.size := ⟨_, rfl⟩
        obtain ⟨b2, hb2⟩ : ∃ b2, b2 = wr.heap.size + 1 := ⟨_, rfl⟩
        have hx1 := (Below.refl wr.heap.size wr).alloc (Nat.le_refl _) (.cells #[.int .u8 (k : Int), .string p, .int .i64 x, .int .i64 nn, .slice ga m gc] 32)
        have hx2 := (Below.refl (wr.alloc (.cells #[.int .u8 (k : Int), .string p, .int .i64 x, .int .i64 nn, .slice ga m gc] 32)).heap.size (wr.alloc (.cells #[.int .u8 (k : Int), .string p, .int .i64 x, .int .i64 nn, .slice ga m gc] 32))).alloc (Nat.le_refl _) (.cells #[.int .u8 (k : Int), .string p, .int .i64 x, .int .i64 nn, .slice ga m gc] 32)
        have HA3 := Lib.hid ((abx_new wr k p x nn ga m gc 32).keep hx2)
        have HBO3 := Lib.hid ((HBR.out.keep hx1).keep hx2)
        have HO3 := Lib.hid (show Abx _ b2 k p x nn ga m gc from by
          have := abx_new (wr.alloc (.cells #[.int .u8 (k : Int), .string p, .int .i64 x, .int .i64 nn, .slice ga m gc] 32)) k p x nn ga m gc 32
          rw [show (wr.alloc (.cells #[.int .u8 (k : Int), .string p, .int .i64 x, .int .i64 nn, .slice ga m gc] 32)).heap.size = b2 by rw [hb2]; simp] at this
          exact this)
        have HS3 := Lib.hid (show ((wr.alloc (.cells #[.int .u8 (k : Int), .string p, .int .i64 x, .int .i64 nn, .slice ga m gc] 32)).alloc (.cells #[.int .u8 (k : Int), .string p, .int .i64 x, .int .i64 nn, .slice ga m gc] 32)).heap.size = b2 + 1 by rw [hb2]; simp)
        have HFP3 := Lib.hid (show (∀ i, Fp t L i → i < b1) ∧ bw < b1 ∧ w.heap.size ≤ b1 ∧ (∀ i, b1 ≤ i → Apart i A' l) from ⟨fun i hi => by rw [hb1]; exact HBR.out.mem.lt hi, by rw [hb1]; exact HBR.out.ds.lt, by rw [hb1]; exact HBR.out.below.size, fun i hi => HBR.out.ds.row.apart (by rw [← hb1]; exact hi)⟩)
        have HB12 := Lib.hid (show b2 = b1 + 1 by rw [hb1, hb2])
        rw [← hb1] at HA3
        clear hx1 hx2
        go_upto_region 9 with fail
        rw [← hb1, ← HB12.out]
        generalize (wr.alloc (.cells #[.int .u8 (k : Int), .string p, .int .i64 x, .int .i64 nn, .slice ga m gc] 32)).alloc (.cells #[.int .u8 (k : Int), .string p, .int .i64 x, .int .i64 nn, .slice ga m gc] 32) = w3 at *
        clear hb1 hb2 k0 k1 k2 k3 k4
        have hok := HOK.out
        simp only at hok
        obtain ⟨hk8, hps, hcap, hbts, hnil, hxx, hnn⟩ := hok
        have HBI := Lib.hid hbts
        have HXN := Lib.hid (And.intro hxx hnn)
        have hm5 := HLIT.out.2
        obtain ⟨G, gq, w4, hrun, hown, hbl⟩ := copy_own (W := w3) gc (hbts.keep HBO3.out.below) hnil (by have := HM.out; omega)
        rw [← HM.out] at hrun hown
        have HAP := Lib.hid hrun
        have HO4 := Lib.hid (HO3.out.keep hbl)
        have HA4 := Lib.hid (HA3.out.keep hbl)
        have HG5 := Lib.hid (Tre.own_set hown (show b2 < w3.heap.size by have := HS3.out; omega) 4 (.slice G m gq))
        have HA5 := Lib.hid (HA4.out.chg (chg_set w4 b2 4 (.slice G m gq)) (by have := HB12.out; omega))
        have HO5 := Lib.hid (HO4.out.put G m gq)
        have HBO5 := Lib.hid ((HBO3.out.keep hbl).offF (chg_set w4 b2 4 (.slice G m gq)) (fun i hi => by
          subst hi
          obtain ⟨f1, f2, f3, f4⟩ := HFP3.out
          have f5 := HB12.out
          exact ⟨fun hi => by have := f1 _ hi; omega, f4 _ (by omega), by omega, by omega⟩))
        have HS5 := Lib.hid (show w3.heap.size ≤ (w4.setCell ⟨b2, 4, none⟩ (.slice G m gq)).heap.size by have := hbl.size; simp [World.setCell]; omega)
        have hz0 := HA3.out.c4
        have hz1 := HA3.out.lt
        have hz4 := HO4.out.c4
        have hzf := HO4.out.fr
        have hzl := HO4.out.lt
        clear hrun hown hbl hbts hk8 hps hcap hnil hxx hnn
        go_upto_region 10 with (at_builtin; refine Pat.wpList_append_run rfl (.tmp 38) (.tmp 40) 30 rfl _ _ _ rfl rfl HAP.out ?_)
        generalize w4.setCell ⟨b2, 4, none⟩ (.slice G m gq) = w5 at *
        clear hz0 hz1 hz4 hzf hzl
        have HWF := Lib.hid (HBO5.out.wf.doT k p x nn (bs := bs) HBI.out.byt)
        have HLN := Lib.hid (Nat.le_trans (doT_len t k p x nn (Crc.str bs)) (Nat.succ_le_succ HTL.out))
        have hl100 : l.length ≤ 100000 := by have := both_len HBO5.out; have := HTL.out; have := HN4.out; omega
        have hdo := Tre.do_any w5 A' c' l.length k l p x nn ga bs m gc rfl HBO5.out.ds.row (by have := HLIT.out.1; omega) HBO5.out.ds.nil HBO5.out.ds.cap hl100 HM.out.symm (HBI.out.keep HBO5.out.below) (by omega) (fun g hg => by
          have h1 : g.2.2 ∈ t := by rw [← HBO5.out.ds.eq]; exact List.mem_map.2 ⟨g, hg, rfl⟩
          have := HBO5.out.wf.size _ h1
          omega)
        rw [HBO5.out.ds.eq] at hdo
        have HDO := Lib.hid hdo
        have HACT := Lib.hid (fun (W : World) (hm : Mem W j t L) (hB : Crc.Bts W G bs) (hg : ∀ i, Gb G i → ¬ Fp t L i) => act_any W j bt k t L p x nn m gq G bs hm HBO5.out.root HBO5.out.wf (by have := HLIT.out.1; omega) (by have := HN4.out; omega) HM.out.symm (by omega) hB (fun ad e _ hf => hg _ ⟨ad, e, rfl⟩ hf) HXN.out.1 HXN.out.2 (by have := HTL.out; have := HN4.out; omega))
        have HBYT := Lib.hid HBI.out.byt
        clear hdo hl100
        generalize doT t k p x nn (Crc.str bs) = r at *
        have hc0 := HA5.out.c0
        have hc1 := HA5.out.c1
        have hc2 := HA5.out.c2
        have hc3 := HA5.out.c3
        have hc4 := HA5.out.c4
        have hcw := HBO5.out.ds.cell
        generalize hll : l.length = q at *
        have HLL := Lib.hid hll
        clear hll
        go_wp2_with fail
        refine HDO.out.mono ?_
        rintro e w6 ⟨A2, c2, l2, G2, g2, rfl, ht2, hl2, hA2, hcc2, ⟨htx2, hfr2⟩, hb2, hap2⟩
        generalize hll2 : l2.length = q2 at *
        have hbo5 := HBO5.out
        have hmd := hbo5.doc (r := (r.1, r.2.1)) ht2 hl2 hA2 (by rw [hll2]; exact hcc2) hb2 hap2 (.cells #[.slice A2 l2.length c2] 29)
        rw [hll2] at hmd
        have HMD := Lib.hid hmd
        have HLL2 := Lib.hid hll2
        have hlw := Nat.lt_of_lt_of_le hbo5.ds.lt hb2.size
        have hcw6 : w6.cell? ⟨bw, 0, none⟩ = some (.slice A' q c') := (hb2.cell (p := ⟨bw, 0, none⟩) hbo5.ds.lt).trans hcw
        have hfw6 : w6.frozen? ⟨bw, 0, none⟩ = false := (hb2.frozen (p := ⟨bw, 0, none⟩) hbo5.ds.lt).trans hbo5.ds.fr
        have hz7 := (Below.refl (w6.setCell ⟨bw, 0, none⟩ (.slice A2 q2 c2)).heap.size (w6.setCell ⟨bw, 0, none⟩ (.slice A2 q2 c2))).alloc (Nat.le_refl _) (.cells #[.slice A2 q2 c2] 29)
        have hbw1 : bw < b1 := HFP3.out.2.1
        have hb12 := HB12.out
        have hs3 := HS3.out
        have HA7 := Lib.hid (((HA5.out.keep hb2).chg (chg_set w6 bw 0 (.slice A2 q2 c2)) (by omega)).keep hz7)
        have HO7 := Lib.hid (((HO5.out.keep hb2).chg (chg_set w6 bw 0 (.slice A2 q2 c2)) (by omega)).keep hz7)
        have HG7 := Lib.hid (own_keepT (own_chg (own_keepT HG5.out hb2) (chg_set w6 bw 0 (.slice A2 q2 c2)) (fun g hg => by have := Crc.row_base_lt HG5.out hg; omega)) hz7)
        have HTX7 := Lib.hid ((Tre.txs_put htx2 hcw6 (fun s e => by cases e) (.slice A2 q2 c2)).keep hz7)
        have HGB := Lib.hid (show ∀ i, Gb G i → w3.heap.size ≤ i ∧ i < w5.heap.size ∧ Apart i A2 l2 from fun i hi => by
          have h1 := gb_row HG5.out hi
          exact ⟨h1.1, h1.2, hap2 i h1.2 (HFP3.out.2.2.2 i (by omega))⟩)
        have HFR := Lib.hid (show ∀ a, G2 = some a → w3.heap.size ≤ a.block from fun a e => Nat.le_trans HS5.out (hfr2 a e))
        have hc10 := HA5.out.lt
        clear hmd hz7 hbo5 ht2 hl2 hA2 hcc2 htx2 hfr2 hb2 hap2 hll2 hb12 hs3 hc0 hc1 hc2 hc3 hc4 hcw
        go_upto_region 12 with fail
        generalize (w6.setCell ⟨bw, 0, none⟩ (.slice A2 q2 c2)).alloc (.cells #[.slice A2 q2 c2] 29) = w7 at *
        clear hlw hcw6 hfw6 hbw1 hc10
        have hc0 := HO7.out.c0
        have hc1 := HO7.out.c1
        have hc2 := HO7.out.c2
        have hc3 := HO7.out.c3
        have hc4 := HO7.out.c4
        go_wp2_with fail
        refine (HACT.out w7 HMD.out.mem (Crc.own_bts HG7.out HBYT.out (by have := HLIT.out.2; omega)) (fun i hi hf => by have h1 := (HGB.out i hi).1; have h2 := HFP3.out.1 i hf; have := HS3.out; have := HB12.out; omega)).mono ?_
        rintro e w8 ⟨G3, g3, rfl, htx3, htr⟩
        obtain ⟨L', hbo8, hfp8⟩ := HMD.out.act HWF.out htr
        have HBO8 := Lib.hid hbo8
        have hgb8 : ∀ i, Gb G i → ¬ Fp t L i := fun i hi hf => by have h1 := (HGB.out i hi).1; have h2 := HFP3.out.1 i hf; have := HS3.out; have := HB12.out; omega
        have HA8 := Lib.hid (HA7.out.chg htr.1 (fun hf => by have := HFP3.out.1 _ hf; omega))
        have HO8 := Lib.hid (HO7.out.chg htr.1 (fun hf => by have := HFP3.out.1 _ hf; have := HB12.out; omega))
        have HG8 := Lib.hid (own_chg HG7.out htr.1 (fun g hg hf => by have h1 := Crc.row_base_lt HG7.out hg; have h2 := HFP3.out.1 _ hf; have := HS3.out; have := HB12.out; omega))
        have HTX8 := Lib.hid (txs_chg HTX7.out htr.1 (fun a e _ hf => by have h1 := HFR.out a e; have h2 := HFP3.out.1 _ hf; have := HS3.out; have := HB12.out; omega))
        have HTM8 := Lib.hid htx3
        have HGF := Lib.hid (show ∀ i, Gb G i → ¬ Fp r.1 L' i ∧ Apart i A2 l2 ∧ i ≠ bw ∧ w.heap.size ≤ i from fun i hi => by
          obtain ⟨h1, h2, h3⟩ := HGB.out i hi
          have f1 := HFP3.out.2.1
          have f2 := HFP3.out.2.2.1
          have f3 := HB12.out
          have f4 := HS3.out
          refine ⟨fun hf => ?_, h3, by omega, by omega⟩
          rcases hfp8 i hf with h4 | h4
          · exact hgb8 i hi h4
          · have := HMD.out.size
            omega)
        clear hbo8 hfp8 hgb8 htr htx3 hc0 hc1 hc2 hc3 hc4
        generalize hnl : r.2.2.2.length = nl at *
        have HNL := Lib.hid hnl
        clear hnl
        have ho4 := HO8.out.c4
        go_wp2_with fail
        clear ho4
        go_loopw [62] (fun ix wx => ∃ (i : Nat) (bs' : List Nat), i ≤ m ∧ ix = .int .i64 (i : Int) ∧ Crc.Byt bs' ∧ bs'.length = m ∧ wx.ownsRow w3.heap.size 5 1 (.slice G m gq) m (Crc.u8s bs') ∧ Chg (Gb G) w8 wx ∧ Txs wx G3 r.2.2.2 ∧ Txs wx G2 r.2.2.2) (fun ix _ => m - (intOf ix).toNat)
        case atStart => exact ⟨0, bs, Nat.zero_le _, rfl, HBYT.out, HM.out.symm, HG8.out, Chg.refl _ _, HTM8.out, HTX8.out⟩
        case round =>
          obtain ⟨i, bs', hi, rfl, hby, hbl, hown, hch, htm, htx⟩ := hrel
          have HBY := Lib.hid hby
          have HBL := Lib.hid hbl
          have HOW := Lib.hid hown
          have HCH := Lib.hid hch
          have HTM := Lib.hid htm
          have HTX := Lib.hid htx
          have HOX := Lib.hid (HO8.out.chg hch (fun hf => by have := (HGB.out _ hf).1; have := HS3.out; omega))
          clear hby hbl hown hch htm htx HTM8 HTX8 HG8
          by_cases hlti : i < m
          · have hG : ∃ g, G = some ⟨g, 0, none⟩ := by
              rcases HOW.out.2 with ⟨e, h0⟩ | ⟨g, cap, cur, e, _⟩
              · omega
              · injection e with e
                exact ⟨g, e⟩
            obtain ⟨g, rfl⟩ := hG
            have hib : i < bs'.length := by rw [HBL.out]; exact hlti
            have hca := HOW.out.cellAt i (by omega)
            have hfa := HOW.out.frozenAt i
            have hxv : (Crc.u8s bs')[i]? = some (.int .u8 (bs'[i] : Int)) := by simp [Crc.u8s, List.getElem?_map, List.getElem?_eq_getElem hib]
            rw [hxv] at hca
            obtain ⟨y, hy, hw⟩ := u8_plus bs'[i] (HBY.out _ (List.getElem_mem hib))
            generalize bs'[i] = xx at *
            have hst := (HOW.out.stored i (.int .u8 (y : Int))).1
            rw [u8s_set] at hst
            have HST := Lib.hid hst
            have HCH2 := Lib.hid (HCH.out.trans (chg_set wr g i (.int .u8 (y : Int))) (fun k hk => .inl ⟨_, rfl, hk⟩))
            have HTM2 := Lib.hid (txs_off HTM.out hca (fun s e => by cases e) (.int .u8 (y : Int)))
            have HTX2 := Lib.hid (txs_off HTX.out hca (fun s e => by cases e) (.int .u8 (y : Int)))
            have HBY2 := Lib.hid (byt_set HBY.out i hy)
            have hgl := (gb_row HOW.out (i := g) ⟨_, rfl, rfl⟩).2
            have ho4 := HOX.out.c4
            have hi0 : (0 : Int) ≤ (i : Int) := by omega
            have hi1 : (i : Int) < (m : Int) := by omega
            clear hst hxv hib hy
            go_wp2
            exact ⟨⟨i + 1, bs'.set i y, by omega, by go_num, HBY2.out, by rw [List.length_set]; exact HBL.out, HST.out, HCH2.out, HTM2.out, HTX2.out⟩, by simp [intOf]; omega⟩
          · obtain rfl : i = m := by omega
            have HBO9 := Lib.hid (HBO8.out.offF HCH.out HGF.out)
            have HA9 := Lib.hid (HA8.out.chg HCH.out (fun hf => by have := (HGB.out _ hf).1; have := HS3.out; have := HB12.out; omega))
            have hq2 : q2 = r.1.length := by rw [← HLL2.out]; exact both_len HBO9.out
            have hl41 : r.1.length ≤ 41 := by have := HLN.out; have := HN4.out; omega
            obtain ⟨k1, hk1⟩ : ∃ k1 : Nat, k1 = r.1.length + 1 := ⟨_, rfl⟩
            have hwq : IntKind.i64.wrap ((q2 : Int) + 1) = (k1 : Int) := by rw [IntKind.wrap_i64]; omega
            have HCNT := Lib.hid (fun (W : World) (hb : Below wr.heap.size wr W) => show Calls Tryz.prog 15 #[.pointer (some ⟨bt, 0, none⟩)] W (fun e w' => e = .returned (.int .i64 (k1 : Int)) ∧ Below wr.heap.size wr w' ∧ w'.cell? ⟨bw, 0, none⟩ = some (.slice A2 q2 c2)) from
              (Count_any W (j + 1) bt r.1 L' (HBO9.out.keep hb).mem HBO9.out.root HBO9.out.wf (by omega)).mono (fun e w' h => by
                have hb2 := hb.trans (h.2.mono hb.size)
                have hcl := (HBO9.out.keep hb2).ds.cell
                rw [HLL2.out] at hcl
                exact ⟨by rw [h.1, hk1]; rfl, hb2, hcl⟩))
            have HALL := Lib.hid (fun (W : World) (hb : Below wr.heap.size wr W) => show Calls Tryz.prog 14 #[.pointer (some ⟨bt, 0, none⟩)] W (fun e w' => ∃ (A5 : Option Addr) (c5 : Nat) (its5 : List It), e = .returned (.slice A5 its5.length c5) ∧ w'.cell? ⟨bw, 0, none⟩ = some (.slice A2 q2 c2) ∧ Calls Tryz.prog 13 #[.slice A5 its5.length c5, tv A2 q2 c2] w' (fun e w6 => e = .returned (.bool true) ∧ w6.cell? ⟨bw, 0, none⟩ = some (.slice A2 q2 c2) ∧ Below wr.heap.size wr w6)) from
              (all_any W (j + 1) bt r.1 L' (HBO9.out.keep hb).mem HBO9.out.root HBO9.out.wf (by omega)).mono (fun e w' h => by
                obtain ⟨A5, c5, its5, rfl, hI5, ht5, _, hb5⟩ := h
                have hb2 := hb.trans (hb5.mono hb.size)
                have h5 := (HBO9.out.keep hb2).ds
                have hcl := h5.cell
                rw [HLL2.out] at hcl
                refine ⟨A5, c5, its5, rfl, hcl, ?_⟩
                refine (Tre.lawSame_yes w' A5 A2 c5 c2 q2 its5 l2 HLL2.out h5.row hI5 (by omega) (by rw [h5.eq]; exact tells_sm ht5)).mono (fun e w6 h6 => ?_)
                have hb6 := hb2.trans (h6.2.mono hb2.size)
                have hcl := (HBO9.out.keep hb6).ds.cell
                rw [HLL2.out] at hcl
                exact ⟨h6.1, hcl, hb6⟩))
            have HSA := Lib.hid ((Pat.same_self wr.drew G3 G2 g3 g2 nl r.2.2.2 HNL.out (HTM.out.keep (Tre.below_drew (Below.refl _ _))) (HTX.out.keep (Tre.below_drew (Below.refl _ _)))).mono (fun e w' h => show e = .returned (.bool true) ∧ Below wr.heap.size wr w' ∧ w'.cell? ⟨bw, 0, none⟩ = some (.slice A2 q2 c2) from by
              obtain ⟨h1, n1, h2⟩ := h
              have hb2 : Below wr.heap.size wr w' := by rw [h2]; exact Pat.below_drewN (Tre.below_drew (Below.refl _ _)) n1
              have hcl := (HBO9.out.keep hb2).ds.cell
              rw [HLL2.out] at hcl
              exact ⟨h1, hb2, hcl⟩))
            have hcl := HBO9.out.ds.cell
            rw [HLL2.out] at hcl
            have hbwl := HBO9.out.ds.lt
            generalize r.2.1 = z at *
            generalize r.2.2.1 = s at *
            clear hq2 hk1
            go_wp2_with fail
            go_region_held3 (fun W' => W'.cell? ⟨bw, 0, none⟩ = some (.slice A2 q2 c2)) (go_keep)
              (first
              | (go_at_call 12
                 with_reducible refine HSA.out.mono ?_
                 rintro e w10 ⟨rfl, hb10, hcl10⟩
                 have hall10 := HALL.out w10 hb10
                 clear hb10)
              | (go_at_call 14
                 with_reducible refine Calls.mono (by assumption) ?_
                 rintro e w11 ⟨A5, c5, its5, rfl, hcl11, hsm11⟩)
              | (go_at_call 13
                 with_reducible refine Calls.mono (by assumption) ?_
                 rintro e w12 ⟨rfl, hcl12, hb12⟩
                 have hcnt12 := HCNT.out w12 hb12
                 clear hb12)
              | (go_at_call 15
                 with_reducible refine Calls.mono (by assumption) ?_
                 rintro e w13 ⟨rfl, hb13, hcl13⟩
                 have HB13 := Lib.hid hb13
                 clear hb13))
            have HBO13 := Lib.hid (HBO9.out.keep HB13.out)
            have HA13 := Lib.hid (HA9.out.keep HB13.out)
            have hcp := HA13.out.c1
            have hcd := HBO13.out.ds.cell
            rw [HLL2.out] at hcd
            have hsz := size_any w13 (j + 1) bt r.1 L' p HBO13.out.mem HBO13.out.root HBO13.out.wf (by have := HLIT.out.1; omega)
            have HDZ := Lib.hid (fun (W : World) (hb : Below w13.heap.size w13 W) => show Calls Tryz.prog 17 #[tv A2 q2 c2, .string p] W (fun e w' => e = .returned (.tuple #[.int .i64 (Tre.sizeT r.1 p).1, .bool (Tre.sizeT r.1 p).2.1, .int .i64 (Tre.sizeT r.1 p).2.2]) ∧ Below W.heap.size W w') from by
              have h5 := (HBO13.out.keep hb).ds
              have := Tre.size_any W A2 c2 q2 l2 p HLL2.out h5.row (by have := HLIT.out.1; omega) (by have := HLL2.out; have h6 := congrArg List.length h5.eq; simp at h6; omega)
              rw [h5.eq] at this
              exact this)
            have HSZ := Lib.hid hsz
            clear hsz HALL HCNT HSA hcl hbwl HACT HDO
            generalize Tre.sizeT r.1 p = u at *
            go_wp2_with fail
            refine HSZ.out.mono ?_
            rintro e w14 ⟨rfl, hb14⟩
            have hcd14 := (HBO13.out.keep hb14).ds.cell
            rw [HLL2.out] at hcd14
            have hcp14 := (HA13.out.keep hb14).c1
            have HD14 := Lib.hid (HDZ.out w14 hb14)
            have HBO14 := Lib.hid (HBO13.out.keep hb14)
            clear hb14 hcd hcp
            go_wp2_with fail
            refine HD14.out.mono ?_
            rintro e w15 ⟨rfl, hb15⟩
            have HBO15 := Lib.hid (HBO14.out.keep hb15)
            clear hb15 hcd14 hcp14
            have hn4 := HN4.out
            go_wp2
            exact ⟨⟨j + 1, r.1, L', A2, c2, l2, by omega, by go_num, HLN.out, HBO15.out⟩, by simp [intOf]; omega⟩
      · have HBZ := Lib.hid HBR.out.below
        go_wp2
        go_ret
        exact ⟨rfl, HBZ.out⟩
  · rw [show fewA acs = false from decide_eq_false hf]
    go_wp2_with fail
    refine (lives_any w2).mono ?_
    rintro e w3 ⟨rfl, hb3⟩
    have HB3 := Lib.hid (HB2.out.trans (hb3.mono HB2.out.size))
    clear hb3
    go_wp2
    go_ret
    exact ⟨rfl, HB3.out⟩
end Trk
end Go.Proofs.YtkhkcfbacnkcnaaGreatDoor
/- Law 14's ModelDoes. -/
namespace Go.Proofs.YtkhkcfbacnkcnaaGreatDoor
open Go.RowKit Go.MapKept
namespace Mod
open Tre (Nm Th It Its Tg Ths ths tv Apart FewA)
open Trk (Mem Nd Wf Fp Chg Gb Both row_blk)
open Pat (Txs)

/-- the program's tree as it was, the document's behind a deed: kept -/
theorem mid_keep {w0 w5 w w' : World} {N bt bw : Nat} {t : List Th} {L : Nm → Nd} {t' : List Th} {A : Option Addr} {c : Nat} {l : List Tg} (h : Trk.Mid w0 w5 w N bt bw t L t' A c l) (hb : Below w.heap.size w w') : Trk.Mid w0 w5 w' N bt bw t L t' A c l :=
  ⟨h.mem.keep hb, h.root, h.ds.keep hb, h.fp, h.bw0, h.below.trans (hb.mono h.below.size), Nat.le_trans h.size hb.size⟩
/-- both trees behind a deed on the program's -/
theorem mid_act {w0 w5 w7 w8 : World} {N N' bt bw : Nat} {t : List Th} {L L' : Nm → Nd} {t' : List Th} {A : Option Addr} {c : Nat} {l : List Tg} (h : Trk.Mid w0 w5 w7 N bt bw t L t' A c l) (hW : Wf t') (hc : Chg (Fp t L) w7 w8) (hm : Mem w8 N' t' L') (hb : (L' []).b = (L []).b) (hf : ∀ i, Fp t' L' i → Fp t L i ∨ w7.heap.size ≤ i) : Both w0 w8 N' bt bw t' L' A c l := by
  refine ⟨hm, hb.trans h.root, hW, h.ds.chg hc (fun i hi => (h.fp i hi).2.2.1) (fun hi => (h.fp _ hi).2.2.2 rfl), fun i hi => ?_, h.bw0, h.below.trans (hc.below h.below.size (fun i hi => (h.fp i hi).2.1))⟩
  rcases hf i hi with h1 | h1
  · exact (h.fp i h1).2
  · refine ⟨Nat.le_trans h.below.size h1, h.ds.row.apart h1, fun e => ?_⟩
    have := h.ds.lt
    omega
/-- a deed's box whose bytes are others -/
structure Dby (w : World) (b : Nat) (k : Int) (p : ByteArray) (x n : Int) (B : Option Addr) (m d : Nat) : Prop extends Dbx w b k p x n B m d where
  fr : w.frozen? ⟨b, 4, none⟩ = false
theorem dby_new (w : World) (k : Int) (p : ByteArray) (x n : Int) (B : Option Addr) (m d : Nat) : Dby (w.alloc (.cells #[.int .i64 k, .string p, .int .i64 x, .int .i64 n, .slice B m d] 58)) w.heap.size k p x n B m d := by
  refine ⟨dbx_new w k p x n B m d, ?_⟩
  exact frozen_of_row _ _ _ _ _ (heap_alloc_new w _)
theorem Dby.keep {w w' : World} {b : Nat} {k : Int} {p : ByteArray} {x n : Int} {B : Option Addr} {m d : Nat} (h : Dby w b k p x n B m d) (hb : Below w.heap.size w w') : Dby w' b k p x n B m d := ⟨h.toDbx.keep hb, (hb.frozen (p := ⟨b, 4, none⟩) h.lt).trans h.fr⟩
theorem Dby.put {w : World} {b : Nat} {k : Int} {p : ByteArray} {x n : Int} {B : Option Addr} {m d : Nat} (h : Dby w b k p x n B m d) (B' : Option Addr) (m' d' : Nat) : Dbx (w.setCell ⟨b, 4, none⟩ (.slice B' m' d')) b k p x n B' m' d' := by
  have o : ∀ j v, j ≠ 4 → w.cell? ⟨b, j, none⟩ = some v → (w.setCell ⟨b, 4, none⟩ (.slice B' m' d')).cell? ⟨b, j, none⟩ = some v := fun j v hj hv => by
    rw [World.cell?_setCell_other _ _ _ _ (fun e => by injection e with _ e; omega)]
    exact hv
  exact ⟨by simpa [World.setCell] using h.lt, o 0 _ (by decide) h.c0, o 1 _ (by decide) h.c1, o 2 _ (by decide) h.c2, o 3 _ (by decide) h.c3, World.cell?_setCell_same _ _ _ h.c4⟩

/-- the box of what is wanted -/
structure Wnb (w : World) (b : Nat) (z : Int) (s : ByteArray) (G : Option Addr) (n g : Nat) : Prop where
  lt : b < w.heap.size
  c0 : w.cell? ⟨b, 0, none⟩ = some (.int .i64 z)
  c1 : w.cell? ⟨b, 1, none⟩ = some (.string s)
  c2 : w.cell? ⟨b, 2, none⟩ = some (.slice G n g)
theorem wnb_new (w : World) (z : Int) (s : ByteArray) (G : Option Addr) (n g : Nat) : Wnb (w.alloc (.cells #[.int .i64 z, .string s, .slice G n g] 60)) w.heap.size z s G n g :=
  ⟨by simp, Crc.alloc_cell w _ _ 0, Crc.alloc_cell w _ _ 1, Crc.alloc_cell w _ _ 2⟩
theorem Wnb.chg {w w' : World} {F : Nat → Prop} {b : Nat} {z : Int} {s : ByteArray} {G : Option Addr} {n g : Nat} (h : Wnb w b z s G n g) (hc : Chg F w w') (hF : ¬ F b) : Wnb w' b z s G n g := by
  have hx := hc.block b h.lt hF
  exact ⟨Nat.lt_of_lt_of_le h.lt hc.size, (World.cell?_of_block (w := w) (a := ⟨b, 0, none⟩) hx).trans h.c0, (World.cell?_of_block (w := w) (a := ⟨b, 1, none⟩) hx).trans h.c1, (World.cell?_of_block (w := w) (a := ⟨b, 2, none⟩) hx).trans h.c2⟩
theorem Wnb.keep {w w' : World} {b : Nat} {z : Int} {s : ByteArray} {G : Option Addr} {n g : Nat} (h : Wnb w b z s G n g) (hb : Below w.heap.size w w') : Wnb w' b z s G n g := h.chg (Chg.of_below (F := fun _ => False) hb) (fun h => h)
/-- the blocks that answers are apart from -/
def Fq (t : List Th) (L : Nm → Nd) (bw i : Nat) : Prop := Fp t L i ∨ i = bw

/-- answers as one thing is told are the same -/
theorem mt_same {x y : An} {r : List Th × Int × ByteArray × List ByteArray} (hx : Mt x r) (hy : Mt y r) (bx : Crc.Byt x.d) (by' : Crc.Byt y.d) : same x y = true := by
  unfold same
  have hd : x.d = y.d := by
    have h := Ent.str_beq bx by'
    rw [hx.2.1, hy.2.1] at h
    simpa using h.symm
  exact decide_eq_true ⟨hx.1.trans hy.1.symm, hd, hx.2.2.trans hy.2.2.symm⟩
/-- an answer's box -/
structure Abn (w : World) (b : Nat) (e : Int) (A : Option Addr) (n c : Nat) (G : Option Addr) (m g : Nat) : Prop where
  lt : b < w.heap.size
  c0 : w.cell? ⟨b, 0, none⟩ = some (.int .i64 e)
  c1 : w.cell? ⟨b, 1, none⟩ = some (.slice A n c)
  c2 : w.cell? ⟨b, 2, none⟩ = some (.slice G m g)
theorem abn_new (w : World) (e : Int) (A : Option Addr) (n c : Nat) (G : Option Addr) (m g : Nat) : Abn (w.alloc (.cells #[.int .i64 e, .slice A n c, .slice G m g] 64)) w.heap.size e A n c G m g :=
  ⟨by simp, Crc.alloc_cell w _ _ 0, Crc.alloc_cell w _ _ 1, Crc.alloc_cell w _ _ 2⟩
theorem Abn.keep {w w' : World} {b : Nat} {e : Int} {A : Option Addr} {n c : Nat} {G : Option Addr} {m g : Nat} (h : Abn w b e A n c G m g) (hb : Below w.heap.size w w') : Abn w' b e A n c G m g :=
  ⟨Nat.lt_of_lt_of_le h.lt hb.size, (hb.cell (p := ⟨b, 0, none⟩) h.lt).trans h.c0, (hb.cell (p := ⟨b, 1, none⟩) h.lt).trans h.c1, (hb.cell (p := ⟨b, 2, none⟩) h.lt).trans h.c2⟩
/-- an answer more; where the row lies then -/
theorem anss_more2 {w : World} {B : Nat} {v : Value} {ys : List An} {F : Nat → Prop} {y : An} (h : Anss w B v ys F) (hy : AnOk w y) (hyl : ∀ i, Gb y.a i ∨ Gb y.g i → i < w.heap.size ∧ ¬ F i ∧ v.ownBlock ≠ some i) (hF : ∀ i, F i → i < w.heap.size) (hB : B ≤ w.heap.size) (hn : ys.length ≤ 1000000) :
    ∃ A c w2, (Builtin.append_ #[55, 55] 55 #[v, .slice (some ⟨w.heap.size, 0, none⟩) 1 1]).run Tryz.prog (w.alloc (.cells #[.int .i64 y.e, .slice y.a y.d.length y.c, .slice y.g y.n.length y.k] 64)) = .ok (.slice A (ys.length + 1) c) w2 ∧ Anss w2 B (.slice A (ys.length + 1) c) (ys ++ [y]) F ∧ Chg (fun i => v.ownBlock = some i) w w2 ∧ ∀ k, (Value.slice A (ys.length + 1) c).ownBlock = some k → v.ownBlock = some k ∨ w.heap.size ≤ k := by
  have hba : Below w.heap.size w (w.alloc (.cells #[.int .i64 y.e, .slice y.a y.d.length y.c, .slice y.g y.n.length y.k] 64)) := (Below.refl _ w).alloc (Nat.le_refl _) _
  have ha := h.keep hba
  obtain ⟨i0, hi0, hz0, hz1, hz2⟩ := ans_info
  obtain ⟨v2, w2, hrun, ho, hg, _, hat⟩ := run_append_own_at (P := Tryz.prog) (w.alloc (.cells #[.int .i64 y.e, .slice y.a y.d.length y.c, .slice y.g y.n.length y.k] 64)) B 55 55 64 i0 _ 3 56 Tryz.underlying55 hi0 hz0 hz1 hz2 rfl (by decide) v ys.length (ycells ys) ha.row ⟨w.heap.size, 0, none⟩ 1 1 (yc y) rfl (fun j x hj => by
    match j, hj with
    | 0, hj => simp only [yc, List.getElem?_cons_zero, Option.some.injEq] at hj; subst hj; rw [Go.WideShapes.add_plain, Crc.alloc_cell]; rfl
    | 1, hj => simp only [yc, List.getElem?_cons_succ, List.getElem?_cons_zero, Option.some.injEq] at hj; subst hj; rw [Go.WideShapes.add_plain, Crc.alloc_cell]; rfl
    | 2, hj => simp only [yc, List.getElem?_cons_succ, List.getElem?_cons_zero, Option.some.injEq] at hj; subst hj; rw [Go.WideShapes.add_plain, Crc.alloc_cell]; rfl
    | j + 3, hj => simp [yc] at hj) (by simp [yc, Value.oneCell']) (by unfold maxLen; omega) (by omega) (Nat.le_trans hB hba.size)
  have hch : Chg (fun i => v.ownBlock = some i) w w2 := Chg.after hba ⟨hg.os, hg.tape, hg.output, hg.size, fun k hk hne => hg.block k hk (fun e => hne e.symm)⟩
  have hv2 : v2.ownBlock = v.ownBlock ∨ ∃ k, v2.ownBlock = some k ∧ w.heap.size ≤ k := hat.imp id (fun e => ⟨_, e, by rw [World.size_alloc]; omega⟩)
  have hall : ∀ z ∈ ys ++ [y], AnOk w z ∧ ∀ i, Gb z.a i ∨ Gb z.g i → i < w.heap.size ∧ ¬ F i ∧ v.ownBlock ≠ some i := fun z hz => by
    rcases List.mem_append.1 hz with h1 | h1
    · exact ⟨h.ok z h1, h.low z h1⟩
    · obtain rfl : z = y := by simpa using h1
      exact ⟨hy, hyl⟩
  have hrow : w2.ownsRow B 64 3 v2 (ys.length + 1) (ycells (ys ++ [y])) := by
    rw [ycells_app]
    simpa [ycells] using ho
  obtain ⟨A, c, rfl⟩ : ∃ A c, v2 = .slice A (ys.length + 1) c := by
    rcases hrow.2 with ⟨_, h0⟩ | ⟨g, cap, cur, e, _⟩
    · omega
    · exact ⟨_, _, e⟩
  refine ⟨A, c, w2, hrun, ⟨by rw [List.length_append, List.length_singleton]; exact hrow, fun z hz => ?_, fun z hz i hi => ?_, fun k hk hf => ?_⟩, hch, fun k hk => ?_⟩
  · obtain ⟨h1, h2⟩ := hall z hz
    exact h1.chg hch (fun i hi e => (h2 i hi).2.2 e)
  · obtain ⟨_, h2⟩ := hall z hz
    obtain ⟨g1, g2, g3⟩ := h2 i hi
    refine ⟨Nat.lt_of_lt_of_le g1 hch.size, g2, fun e => ?_⟩
    rcases hv2 with h4 | ⟨k, h4, h5⟩
    · exact g3 (h4.symm.trans e)
    · rw [h4] at e
      injection e with e
      omega
  · rcases hv2 with h4 | ⟨k', h4, h5⟩
    · exact h.rowf k (h4.symm.trans hk) hf
    · rw [h4] at hk
      injection hk with hk
      have := hF k hf
      omega
  · rcases hv2 with h4 | ⟨k', h4, h5⟩
    · exact .inl (h4.symm.trans hk)
    · rw [h4] at hk
      injection hk with hk
      exact .inr (by omega)

set_option maxRecDepth 100000 in
set_option maxHeartbeats 4000000 in
theorem does_law (w : World) (A0 : Option Addr) (n c0 : Nat) (l : List Dd) (hI : Dds w A0 l) (hn : l.length = n) (hr : n * 64 ≤ 140737488351232) :
    Calls Tryz.prog 5 #[.slice A0 n c0] w fun e w' => e = .returned (.bool true) ∧ Below w.heap.size w w' := by
  have HI := Lib.hid hI
  have HN := Lib.hid hn
  have HL := Lib.hid (lives_any w)
  have HR := Lib.hid hr
  clear hI hn hr
  go_enter Tryz.func5, Tryz.ntmps5
  go_wp2_with fail
  refine HL.out.mono ?_
  rintro e w1 ⟨rfl, hb1⟩
  have HB1 := Lib.hid hb1
  have HFW := Lib.hid (few_any w1 A0 n c0 l (HI.out.keep hb1) HN.out HR.out)
  clear hb1
  go_wp2_with fail
  refine HFW.out.mono ?_
  rintro e w2 ⟨rfl, hb2⟩
  have HB2 := Lib.hid (HB1.out.trans (hb2.mono HB1.out.size))
  clear hb2
  by_cases hf : FewD l
  · rw [show decide (FewD l) = true from decide_eq_true hf]
    have HN4 := Lib.hid (show n ≤ 40 by have := hf.2; rw [List.length_map] at this; rw [← HN.out]; exact this)
    have HFA := Lib.hid (show ∀ g ∈ l, g.p.size ≤ 300 ∧ g.b.length ≤ 500 from fun g hg => by have := hf.1 (toAc g) (List.mem_map.2 ⟨g, hg, rfl⟩); exact ⟨this.1, this.2.1⟩)
    clear hf
    go_wp2_with fail
    refine (Trk.new_any w2).mono ?_
    rintro e w3 ⟨rfl, hm, hb3, hs3⟩
    have HBO := Lib.hid (Trk.both_new HB2.out hm hb3 hs3 29)
    clear hm hb3 hs3
    obtain ⟨bt, hbt⟩ : ∃ bt, bt = w2.heap.size := ⟨_, rfl⟩
    obtain ⟨bw, hbw⟩ : ∃ bw, bw = w3.heap.size := ⟨_, rfl⟩
    rw [← hbt, ← hbw] at HBO
    go_wp2_with fail
    rw [← hbt, ← hbw]
    clear hbt hbw
    go_loopw [5, 25] (fun v ix wr => ∃ (j : Nat) (L : Nm → Nd) (A' : Option Addr) (c' : Nat) (lt : List Tg) (G : Option Addr) (gc : Nat) (ys : List An), j ≤ n ∧ ix = .int .i64 (j : Int) ∧ v = .slice G j gc ∧ ys.length = j ∧ Mts [] (l.take j) ys ∧ Both w wr j bt bw (tM [] (l.take j)) L A' c' lt ∧ Anss wr w.heap.size (.slice G j gc) ys (Fq (tM [] (l.take j)) L bw) ∧ ∀ k, (Value.slice G j gc).ownBlock = some k → Apart k A' lt) (fun _ ix _ => n - (intOf ix).toNat)
    case atStart => exact ⟨0, _, none, 0, [], none, 0, [], Nat.zero_le _, rfl, rfl, rfl, fun i hi => by simp at hi, by rw [List.take_zero]; exact HBO.out, anss_nil _ _ _, fun k hk => by cases hk⟩
    case round =>
      obtain ⟨j, L, A', c', lt, G0, gc0, ys, hj, rfl, rfl, hys, hmt, hbo, hans, hra⟩ := hrel
      have HYS := Lib.hid hys
      have HMT := Lib.hid hmt
      have HBR := Lib.hid hbo
      have HANS := Lib.hid hans
      have HRA := Lib.hid hra
      clear hys hmt hbo hans hra HBO
      by_cases hlt : j < n
      · have hlti : j < l.length := by rw [HN.out]; exact hlt
        have HTM := Lib.hid (tM_take [] l hlti)
        have HMORE := Lib.hid (fun y hy => mts_more (y := y) HMT.out HYS.out hlti hy)
        have hlen := tM_len [] (l.take j)
        rw [List.length_take, List.length_nil] at hlen
        have HLEN := Lib.hid (show (tM [] (l.take j)).length ≤ 40 by have := HN4.out; omega)
        clear hlen
        generalize tM [] (l.take j) = t at *
        obtain ⟨bi, oi, rfl, hbli, k0, k1, k2, k3, k4⟩ := (HI.out.keep HBR.out.below).at' j hlti
        have hok := HI.out.ok _ (List.getElem_mem hlti)
        have hlit := HFA.out _ (List.getElem_mem hlti)
        generalize l[j] = q at *
        obtain ⟨k, p, x, nn, ga, gc, bs⟩ := q
        simp only at k0 k1 k2 k3 k4 hok hlit
        obtain ⟨m, hm⟩ : ∃ m, m = bs.length := ⟨_, rfl⟩
        rw [← hm] at k4 hok hlit
        have HM := Lib.hid hm
        have HOK := Lib.hid hok
        have HLIT := Lib.hid hlit
        have hj0 : (j : Int) < (n : Int) := by omega
        have hm0 : (0 : Int) ≤ (j : Int) := by omega
        clear hm hok hlit hlti
        obtain ⟨b1, hb1⟩ : ∃ b1, b1 = wr.heap.size := ⟨_, rfl⟩
        obtain ⟨b2, hb2⟩ : ∃ b2, b2 = wr.heap.size + 1 := ⟨_, rfl⟩
        have hx1 := (Below.refl wr.heap.size wr).alloc (Nat.le_refl _) (.cells #[.int .i64 k, .string p, .int .i64 x, .int .i64 nn, .slice ga m gc] 58)
        have hx2 := (Below.refl (wr.alloc (.cells #[.int .i64 k, .string p, .int .i64 x, .int .i64 nn, .slice ga m gc] 58)).heap.size (wr.alloc (.cells #[.int .i64 k, .string p, .int .i64 x, .int .i64 nn, .slice ga m gc] 58))).alloc (Nat.le_refl _) (.cells #[.int .i64 k, .string p, .int .i64 x, .int .i64 nn, .slice ga m gc] 58)
        have HX := Lib.hid (hx1.trans (hx2.mono hx1.size))
        have HA3 := Lib.hid (show Dbx _ b1 k p x nn ga m gc from by rw [hb1]; exact (dbx_new wr k p x nn ga m gc).keep hx2)
        have HO3 := Lib.hid (show Dby _ b2 k p x nn ga m gc from by
          have := dby_new (wr.alloc (.cells #[.int .i64 k, .string p, .int .i64 x, .int .i64 nn, .slice ga m gc] 58)) k p x nn ga m gc
          rw [show (wr.alloc (.cells #[.int .i64 k, .string p, .int .i64 x, .int .i64 nn, .slice ga m gc] 58)).heap.size = b2 by rw [hb2]; simp] at this
          exact this)
        have HS3 := Lib.hid (show ((wr.alloc (.cells #[.int .i64 k, .string p, .int .i64 x, .int .i64 nn, .slice ga m gc] 58)).alloc (.cells #[.int .i64 k, .string p, .int .i64 x, .int .i64 nn, .slice ga m gc] 58)).heap.size = b2 + 1 by rw [hb2]; simp)
        have HB12 := Lib.hid (show b2 = b1 + 1 ∧ b1 = wr.heap.size from ⟨by rw [hb1, hb2], hb1⟩)
        have hb12 : b1 + 1 = b2 := by rw [hb1, hb2]
        clear hx1 hx2
        go_upto_region 10 with fail
        rw [← hb1, hb12]
        generalize (wr.alloc (.cells #[.int .i64 k, .string p, .int .i64 x, .int .i64 nn, .slice ga m gc] 58)).alloc (.cells #[.int .i64 k, .string p, .int .i64 x, .int .i64 nn, .slice ga m gc] 58) = w3 at *
        clear hb1 hb2 hb12 k0 k1 k2 k3 k4
        have hbts3 : Crc.Bts w3 ga bs := HOK.out.2.2.1.keep (HBR.out.below.trans (HX.out.mono HBR.out.below.size))
        obtain ⟨G, gq, w4, hrun, hown, hbl⟩ := Trk.copy_own (W := w3) gc hbts3 HOK.out.2.2.2.1 (by have := HM.out; have := HLIT.out.2; omega)
        rw [← HM.out] at hrun hown
        have HAP := Lib.hid hrun
        have HA5 := Lib.hid ((HA3.out.keep hbl).chg (Trk.chg_set w4 b2 4 (.slice G m gq)) (by have := HB12.out.1; omega))
        have HO5 := Lib.hid ((HO3.out.keep hbl).put G m gq)
        have HG5 := Lib.hid (Tre.own_set hown (show b2 < w3.heap.size by have := HS3.out; omega) 4 (.slice G m gq))
        have hbe : Below wr.heap.size wr w4 := HX.out.trans (hbl.mono HX.out.size)
        have HBE := Lib.hid (hbe.setCell (p := ⟨b2, 4, none⟩) (by have := HB12.out; simp only; omega) (.slice G m gq))
        have HS5 := Lib.hid (show w3.heap.size ≤ (w4.setCell ⟨b2, 4, none⟩ (.slice G m gq)).heap.size by have := hbl.size; simp [World.setCell]; omega)
        have hz0 := HA3.out.c4
        have hz1 := HA3.out.lt
        have hz4 := (HO3.out.keep hbl).c4
        have hzf := (HO3.out.keep hbl).fr
        have hzl := (HO3.out.keep hbl).lt
        clear hrun hown hbl hbts3 hbe
        go_upto_region 11 with (at_builtin; refine Pat.wpList_append_run rfl (.tmp 30) (.tmp 32) 30 rfl _ _ _ rfl rfl HAP.out ?_)
        generalize w4.setCell ⟨b2, 4, none⟩ (.slice G m gq) = w5 at *
        clear hz0 hz1 hz4 hzf hzl
        have HBO5 := Lib.hid (HBR.out.keep HBE.out)
        have HANS5 := Lib.hid (HANS.out.keep HBE.out)
        have HRM := Lib.hid (show rM t ⟨k, p, x, nn, ga, gc, bs⟩ = doM t k p x nn (Crc.str bs) from rfl)
        have HWF := Lib.hid (wf_doM HBO5.out.wf k p x nn (bs := bs) HOK.out.2.2.1.byt)
        have hl41 : lt.length ≤ 41 := by have := Trk.both_len HBO5.out; have := HLEN.out; omega
        have hwant := want_any w5 A' c' lt.length k lt p x nn ga bs m gc rfl HBO5.out.ds.row (by have := HLIT.out.1; omega) HBO5.out.ds.nil HBO5.out.ds.cap (by omega) HM.out.symm (HOK.out.2.2.1.keep HBO5.out.below) (by have := HLIT.out.2; omega) (fun g hg => by
          have h1 : g.2.2 ∈ t := by rw [← HBO5.out.ds.eq]; exact List.mem_map.2 ⟨g, hg, rfl⟩
          have := HBO5.out.wf.size _ h1
          omega)
        rw [HBO5.out.ds.eq] at hwant
        have HWA := Lib.hid hwant
        have HDO := Lib.hid (fun (W : World) (hm : Mem W j t L) (hB : Crc.Bts W G bs) => do_any W j bt k t L p x nn m gq G bs hm HBO5.out.root HBO5.out.wf (by have := HLIT.out.1; omega) (by have := HN4.out; omega) HM.out.symm (by have := HLIT.out.2; omega) hB HOK.out.2.2.2.2.1 HOK.out.2.2.2.2.2 (by have := HLEN.out; omega))
        rw [HRM.out] at HTM HMORE
        have hdl := doM_len t k p x nn (Crc.str bs)
        have HDL := Lib.hid (Nat.le_trans hdl (Nat.succ_le_succ HLEN.out))
        clear hwant hdl
        generalize doM t k p x nn (Crc.str bs) = r at *
        have hc0 := HA5.out.c0
        have hc1 := HA5.out.c1
        have hc2 := HA5.out.c2
        have hc3 := HA5.out.c3
        have hc4 := HA5.out.c4
        have hcw := HBO5.out.ds.cell
        generalize hll : lt.length = q at *
        have HLL := Lib.hid hll
        clear hll
        go_wp2_with fail
        refine HWA.out.mono ?_
        rintro e w6 ⟨A2, c2, l2, G2, g2, rfl, ht2, hl2, hA2, hcc2, ⟨htx2, hfr2⟩, hb2, hap2⟩
        generalize hll2 : l2.length = q2 at *
        generalize hnl : r.2.2.2.length = nl at *
        have HNL := Lib.hid hnl
        have hbo5 := HBO5.out
        have hmd := hbo5.doc (r := (r.1, r.2.1)) ht2 hl2 hA2 (by rw [hll2]; exact hcc2) hb2 hap2 (.cells #[.slice A2 l2.length c2] 29)
        rw [hll2] at hmd
        have hy1 := (Below.refl ((w6.setCell ⟨bw, 0, none⟩ (.slice A2 q2 c2)).alloc (.cells #[.slice A2 q2 c2] 29)).heap.size ((w6.setCell ⟨bw, 0, none⟩ (.slice A2 q2 c2)).alloc (.cells #[.slice A2 q2 c2] 29))).alloc (Nat.le_refl _) (.cells #[.int .i64 r.2.1, .string r.2.2.1, .slice G2 nl g2] 60)
        have hy0 := (Below.refl (w6.setCell ⟨bw, 0, none⟩ (.slice A2 q2 c2)).heap.size (w6.setCell ⟨bw, 0, none⟩ (.slice A2 q2 c2))).alloc (Nat.le_refl _) (.cells #[.slice A2 q2 c2] 29)
        have hyy := hy0.trans (hy1.mono hy0.size)
        have HMD := Lib.hid (mid_keep hmd hy1)
        have HLL2 := Lib.hid hll2
        have hlw := Nat.lt_of_lt_of_le hbo5.ds.lt hb2.size
        have hcw6 : w6.cell? ⟨bw, 0, none⟩ = some (.slice A' q c') := (hb2.cell (p := ⟨bw, 0, none⟩) hbo5.ds.lt).trans hcw
        have hfw6 : w6.frozen? ⟨bw, 0, none⟩ = false := (hb2.frozen (p := ⟨bw, 0, none⟩) hbo5.ds.lt).trans hbo5.ds.fr
        have hbw1 : bw < b1 := by have := HBR.out.ds.lt; have := HB12.out; omega
        have hb12 := HB12.out
        have hs3 := HS3.out
        have hcb := Trk.chg_set w6 bw 0 (.slice A2 q2 c2)
        have HA7 := Lib.hid (((HA5.out.keep hb2).chg hcb (by omega)).keep hyy)
        have HO7 := Lib.hid (((HO5.out.keep hb2).chg hcb (by omega)).keep hyy)
        have HG7 := Lib.hid (Trk.own_keepT (Trk.own_chg (Trk.own_keepT HG5.out hb2) hcb (fun g hg => by have := Crc.row_base_lt HG5.out hg; omega)) hyy)
        have HTX7 := Lib.hid ((Tre.txs_put htx2 hcw6 (fun s e => by cases e) (.slice A2 q2 c2)).keep hyy)
        have HGB := Lib.hid (show ∀ i, Gb G i → w3.heap.size ≤ i ∧ i < w5.heap.size from fun i hi => Trk.gb_row HG5.out hi)
        have HFR := Lib.hid (show ∀ a, G2 = some a → w5.heap.size ≤ a.block from fun a e => hfr2 a e)
        have HANS7 := Lib.hid ((((HANS5.out.keep hb2).step (F := Fq t L bw) (F' := Fq t L bw) (chg_weak hcb (fun i hi => .inr hi)) (fun i hi => .inl hi))).keep hyy)
        have HRA7 := Lib.hid (show ∀ k, (Value.slice G0 j gc0).ownBlock = some k → Apart k A2 l2 from fun k hk => hap2 k (Nat.lt_of_lt_of_le (row_blk HANS.out.row hk).2 HBE.out.size) (HRA.out k hk))
        obtain ⟨bn, hbn⟩ : ∃ bn, bn = w6.heap.size + 1 := ⟨_, rfl⟩
        have HY7 := Lib.hid (show Wnb _ bn r.2.1 r.2.2.1 G2 nl g2 from by
          have := wnb_new ((w6.setCell ⟨bw, 0, none⟩ (.slice A2 q2 c2)).alloc (.cells #[.slice A2 q2 c2] 29)) r.2.1 r.2.2.1 G2 nl g2
          rw [show ((w6.setCell ⟨bw, 0, none⟩ (.slice A2 q2 c2)).alloc (.cells #[.slice A2 q2 c2] 29)).heap.size = bn by rw [hbn]; simp [World.setCell]] at this
          exact this)
        have HBN := Lib.hid (show w5.heap.size < bn by rw [hbn]; have := hb2.size; omega)
        have HFPB := Lib.hid (show ∀ i, Fp t L i → i < b1 from fun i hi => by have := HBR.out.mem.lt hi; omega)
        have hc10 := HA5.out.lt
        clear hmd hy0 hy1 hyy hbo5 ht2 hl2 hA2 hcc2 htx2 hfr2 hap2 hll2 hnl hb12 hs3 hc0 hc1 hc2 hc3 hc4 hcw hcb
        go_upto_region 13 with fail
        rw [← hbn]
        generalize ((w6.setCell ⟨bw, 0, none⟩ (.slice A2 q2 c2)).alloc (.cells #[.slice A2 q2 c2] 29)).alloc (.cells #[.int .i64 r.2.1, .string r.2.2.1, .slice G2 nl g2] 60) = w7 at *
        clear hlw hcw6 hfw6 hbw1 hc10 hbn
        have hc0 := HO7.out.c0
        have hc1 := HO7.out.c1
        have hc2 := HO7.out.c2
        have hc3 := HO7.out.c3
        have hc4 := HO7.out.c4
        go_wp2_with fail
        refine (HDO.out w7 HMD.out.mem (Crc.own_bts HG7.out HOK.out.2.2.1.byt (by have := HLIT.out.2; omega))).mono ?_
        rintro e w8 ⟨y, rfl, h1, h2, h3, hyo, hch, L', hmem', hroot', hfp', hgy⟩
        have hbo8 := mid_act HMD.out HWF.out hch hmem' hroot' hfp'
        have hnf : ∀ i, b1 ≤ i → ¬ Fp t L i := fun i hi hf => by have := HFPB.out i hf; omega
        have hb12 := HB12.out
        have hs3 := HS3.out
        have hbn5 := HBN.out
        have hs5 := HS5.out
        have ha8 := HA7.out.chg hch (hnf _ (Nat.le_refl _))
        have ho8 := HO7.out.chg hch (hnf _ (by omega))
        have hg8 := Trk.own_chg HG7.out hch (fun g hg => hnf _ (by have := Crc.row_base_lt HG7.out hg; omega))
        have htx8 := Trk.txs_chg HTX7.out hch (fun a e _ => hnf _ (by have := HFR.out a e; omega))
        have hy8 := HY7.out.chg hch (hnf _ (by omega))
        have hans8 : Anss w8 w.heap.size (.slice G0 j gc0) ys (Fq r.1 L' bw) := HANS7.out.step (chg_weak hch (fun i hi => .inl hi)) (fun i hi => hi.elim (fun h => (hfp' i h).elim (fun h => .inl (.inl h)) (fun h => .inr h)) (fun h => .inl (.inr h)))
        have HYB := Lib.hid (show ∀ i, Gb y.a i ∨ Gb y.g i → i < w8.heap.size ∧ ¬ Fq r.1 L' bw i ∧ (Value.slice G0 j gc0).ownBlock ≠ some i from fun i hi => by
          obtain ⟨q1, q2, q3⟩ := hgy i hi
          have hwr := HBE.out.size
          have hw7 := HMD.out.size
          refine ⟨q2, fun h => h.elim q3 (fun h => ?_), fun e => ?_⟩
          · have := HBR.out.ds.lt
            omega
          · have := (row_blk HANS.out.row e).2
            omega)
        obtain ⟨ye, ya, yc0, yd, yg, yk, yn⟩ := y
        unfold An.val at *
        simp only at h1 h2 h3
        generalize hdl : yd.length = dl at *
        generalize hynl : yn.length = ynl at *
        have HDLN := Lib.hid (And.intro hdl hynl)
        have hba9 := (Below.refl w8.heap.size w8).alloc (Nat.le_refl _) (.cells #[.int .i64 ye, .slice ya dl yc0, .slice yg ynl yk] 64)
        obtain ⟨ba, hba⟩ : ∃ ba, ba = w8.heap.size := ⟨_, rfl⟩
        have HAB9 := Lib.hid (show Abn (w8.alloc (.cells #[.int .i64 ye, .slice ya dl yc0, .slice yg ynl yk] 64)) ba ye ya dl yc0 yg ynl yk from by rw [hba]; exact abn_new _ _ _ _ _ _ _ _)
        have HYO9 := Lib.hid (hyo.keep hba9)
        have HM9 := Lib.hid (show ye = r.2.1 ∧ Crc.str yd = r.2.2.1 ∧ yn = r.2.2.2 from ⟨h1, h2, h3⟩)
        have HBO9 := Lib.hid (hbo8.keep hba9)
        have HANS9 := Lib.hid (hans8.keep hba9)
        have HA9 := Lib.hid (ha8.keep hba9)
        have HO9 := Lib.hid (ho8.keep hba9)
        have HG9 := Lib.hid (Trk.own_keepT hg8 hba9)
        have HTX9 := Lib.hid (htx8.keep hba9)
        have HY9 := Lib.hid (hy8.keep hba9)
        have HS9 := Lib.hid (show w8.heap.size ≤ (w8.alloc (.cells #[.int .i64 ye, .slice ya dl yc0, .slice yg ynl yk] 64)).heap.size from hba9.size)
        clear hbo8 hnf hb12 hs3 hbn5 hs5 ha8 ho8 hg8 htx8 hy8 hans8 hba9 hyo hch hmem' hroot' hfp' hgy hc0 hc1 hc2 hc3 hc4 h1 h2 h3 hdl hynl
        go_upto_region 14 with fail
        rw [← hba]
        generalize w8.alloc (.cells #[.int .i64 ye, .slice ya dl yc0, .slice yg ynl yk] 64) = w9 at *
        clear hba
        have HKP := Lib.hid (fun (W : World) (hb : Below w9.heap.size w9 W) => show W.cell? ⟨bw, 0, none⟩ = some (.slice A2 q2 c2) ∧ W.cell? ⟨b2, 4, none⟩ = some (.slice G m gq) ∧ W.cell? ⟨b1, 4, none⟩ = some (.slice ga m gc) ∧ W.cell? ⟨ba, 0, none⟩ = some (.int .i64 ye) ∧ W.cell? ⟨ba, 1, none⟩ = some (.slice ya dl yc0) ∧ W.cell? ⟨ba, 2, none⟩ = some (.slice yg ynl yk) ∧ W.cell? ⟨bn, 0, none⟩ = some (.int .i64 r.2.1) ∧ W.cell? ⟨bn, 1, none⟩ = some (.string r.2.2.1) ∧ W.cell? ⟨bn, 2, none⟩ = some (.slice G2 nl g2) from by
          have h1 := (HBO9.out.keep hb).ds.cell
          rw [HLL2.out] at h1
          have h2 := HAB9.out.keep hb
          have h3 := HY9.out.keep hb
          exact ⟨h1, (HO9.out.keep hb).c4, (HA9.out.keep hb).c4, h2.c0, h2.c1, h2.c2, h3.c0, h3.c1, h3.c2⟩)
        have heq := equal_yes w9.drew ⟨ye, ya, yc0, yd, yg, yk, yn⟩ r.2.1 r.2.2.1 r.2.2.2 G2 g2 (HYO9.out.keep (Tre.below_drew (Below.refl _ _))) (HTX9.out.keep (Tre.below_drew (Below.refl _ _))) HM9.out.1 HM9.out.2.1 HM9.out.2.2
        unfold An.val at heq
        simp only at heq
        rw [HDLN.out.1, HDLN.out.2, HNL.out] at heq
        have HEQ := Lib.hid (heq.mono (fun e w' h => show e = .returned (.bool true) ∧ Below w9.heap.size w9 w' from ⟨h.1, Tre.below_drew h.2⟩))
        have HCV := Lib.hid (fun (W : World) (hb : Below w9.heap.size w9 W) => show (convert 30 9 (.slice G m gq)).run Tryz.prog W = .ok (.string (Crc.str bs)) W ∧ (convert 30 9 (.slice ga m gc)).run Tryz.prog W = .ok (.string (Crc.str bs)) W from by
          have h1 := Crc.conv_str gq (Crc.own_bts (Trk.own_keepT HG9.out hb) HOK.out.2.2.1.byt (by have := HLIT.out.2; omega))
          have h2 := Crc.conv_str gc (HOK.out.2.2.1.keep (HBO9.out.keep hb).below)
          rw [← HM.out] at h1 h2
          exact ⟨h1, h2⟩)
        have HALL := Lib.hid (fun (W : World) (hb : Below w9.heap.size w9 W) => show Calls Tryz.prog 14 #[.pointer (some ⟨bt, 0, none⟩)] W (fun e w' => ∃ (A5 : Option Addr) (c5 : Nat) (its5 : List It), e = .returned (.slice A5 its5.length c5) ∧ Below w9.heap.size w9 w' ∧ Calls Tryz.prog 13 #[.slice A5 its5.length c5, tv A2 q2 c2] w' (fun e w6 => e = .returned (.bool true) ∧ Below w9.heap.size w9 w6)) from
          (Trk.all_any W (j + 1) bt r.1 L' (HBO9.out.keep hb).mem HBO9.out.root HBO9.out.wf (by have := HDL.out; omega)).mono (fun e w' h => by
            obtain ⟨A5, c5, its5, rfl, hI5, ht5, _, hb5⟩ := h
            have hb2 := hb.trans (hb5.mono hb.size)
            have h5 := (HBO9.out.keep hb2).ds
            refine ⟨A5, c5, its5, rfl, hb2, ?_⟩
            refine (Tre.lawSame_yes w' A5 A2 c5 c2 q2 its5 l2 HLL2.out h5.row hI5 (by have := HLL2.out; have h6 := Trk.both_len HBO9.out; have := HDL.out; omega) (by rw [h5.eq]; exact Trk.tells_sm ht5)).mono (fun e w6 h6 => ⟨h6.1, hb2.trans (h6.2.mono hb2.size)⟩)))
        obtain ⟨p0, p1, p2, p3, p4, p5, p6, p7, p8⟩ := HKP.out w9.drew (Tre.below_drew (Below.refl _ _))
        obtain ⟨p9, p10⟩ := HCV.out w9.drew (Tre.below_drew (Below.refl _ _))
        have HY := Lib.hid (HMORE.out ⟨ye, ya, yc0, yd, yg, yk, yn⟩ HM9.out)
        clear heq
        generalize r.2.1 = z at *
        generalize r.2.2.1 = sd at *
        generalize Crc.str bs = S at *
        go_wp2_with fail
        go_region_held3 (fun W' => W'.cell? ⟨bw, 0, none⟩ = some (.slice A2 q2 c2) ∧ W'.cell? ⟨b2, 4, none⟩ = some (.slice G m gq) ∧ W'.cell? ⟨b1, 4, none⟩ = some (.slice ga m gc) ∧ W'.cell? ⟨ba, 0, none⟩ = some (.int .i64 ye) ∧ W'.cell? ⟨ba, 1, none⟩ = some (.slice ya dl yc0) ∧ W'.cell? ⟨ba, 2, none⟩ = some (.slice yg ynl yk) ∧ W'.cell? ⟨bn, 0, none⟩ = some (.int .i64 z) ∧ W'.cell? ⟨bn, 1, none⟩ = some (.string sd) ∧ W'.cell? ⟨bn, 2, none⟩ = some (.slice G2 nl g2) ∧ (convert 30 9 (.slice G m gq)).run Tryz.prog W' = .ok (.string S) W' ∧ (convert 30 9 (.slice ga m gc)).run Tryz.prog W' = .ok (.string S) W') (refine ⟨?_, ?_, ?_, ?_, ?_, ?_, ?_, ?_, ?_, ?_, ?_⟩ <;> assumption)
          (first
          | (go_at_call 25
             with_reducible refine HEQ.out.mono ?_
             rintro e w10 ⟨rfl, hb10⟩
             obtain ⟨q0, q1, q2', q3, q4, q5, q6, q7, q8⟩ := HKP.out w10 hb10
             obtain ⟨hcv1, hcv2⟩ := HCV.out w10 hb10
             have hall10 := HALL.out w10 hb10
             clear hb10)
          | (go_at_call 14
             with_reducible refine Calls.mono (by assumption) ?_
             rintro e w11 ⟨A5, c5, its5, rfl, hb11, hsm11⟩
             obtain ⟨r0, r1, r2, r3, r4, r5, r6, r7, r8⟩ := HKP.out w11 hb11
             obtain ⟨r9, r10⟩ := HCV.out w11 hb11
             clear hb11)
          | (go_at_call 13
             with_reducible refine Calls.mono (by assumption) ?_
             rintro e w12 ⟨rfl, hb12⟩
             obtain ⟨s0, s1, s2, s3, s4, s5, s6, s7, s8⟩ := HKP.out w12 hb12
             obtain ⟨s9, s10⟩ := HCV.out w12 hb12
             have HB12' := Lib.hid hb12
             clear hb12))
        have hans12 := HANS9.out.keep HB12'.out
        have hbo12 := HBO9.out.keep HB12'.out
        have h129 := HB12'.out.size
        have h98 := HS9.out
        obtain ⟨A3, c3, w13, hrun, hans13, hch13, hrow13⟩ := anss_more2 hans12 (y := ⟨ye, ya, yc0, yd, yg, yk, yn⟩) (HYO9.out.keep HB12'.out) (fun i hi => by
          obtain ⟨q1, q2, q3⟩ := HYB.out i hi
          exact ⟨by omega, q2, q3⟩) (fun i hi => hi.elim (fun h => hbo12.mem.lt h) (fun h => by rw [h]; exact hbo12.ds.lt)) hbo12.below.size (by rw [HYS.out]; have := HN4.out; omega)
        simp only at hrun
        rw [HDLN.out.1, HDLN.out.2, HYS.out] at hrun
        rw [HYS.out] at hans13 hrow13
        have HRUN := Lib.hid hrun
        have HANS13 := Lib.hid hans13
        have HBO13 := Lib.hid (hbo12.offF hch13 (fun i hi => ⟨fun hf => hans12.rowf i hi (.inl hf), HRA7.out i hi, fun e => hans12.rowf i hi (.inr e), (row_blk hans12.row hi).1⟩))
        have HRA13 := Lib.hid (show ∀ k, (Value.slice A3 (j + 1) c3).ownBlock = some k → Apart k A2 l2 from fun k hk => (hrow13 k hk).elim (HRA7.out k) (fun h => hbo12.ds.row.apart h))
        have HYL := Lib.hid (show (ys ++ [(⟨ye, ya, yc0, yd, yg, yk, yn⟩ : An)]).length = j + 1 by rw [List.length_append, HYS.out]; rfl)
        have hn4 := HN4.out
        clear hrun hans13 hans12 hbo12 h129 h98 hch13 hrow13
        generalize ys ++ [(⟨ye, ya, yc0, yd, yg, yk, yn⟩ : An)] = ys2 at *
        go_wp2_with (at_builtin; refine Pat.wpList_append_run rfl (.tmp 66) (.tmp 68) 55 rfl _ _ _ rfl rfl HRUN.out ?_)
        exact ⟨⟨j + 1, L', A2, c2, l2, A3, c3, ys2, by omega, by go_num, rfl, HYL.out, HY.out, by rw [HTM.out]; exact HBO13.out, by rw [HTM.out]; exact HANS13.out, HRA13.out⟩, by simp [intOf]; omega⟩
      · obtain rfl : n = j := by omega
        have HT := Lib.hid (show l.take n = l from List.take_of_length_le (by have := HN.out; omega))
        rw [HT.out] at HMT HBR HANS
        have HFIT := Lib.hid (show Fit l from fun g hg => by have := HFA.out g hg; exact ⟨by omega, by omega⟩)
        clear hlt
        go_wp2_with fail
        refine (Trk.new_any wr).mono ?_
        rintro e w13 ⟨rfl, hm13, hb13, hs13⟩
        obtain ⟨b3, hb3⟩ : ∃ b3, b3 = wr.heap.size := ⟨_, rfl⟩
        rw [← hb3] at hm13
        rw [← hb3]
        have HF0 := Lib.hid (show ∀ i, Fp [] (Trk.L0 b3) i → i = b3 from fun i hi => by
          obtain ⟨p, v, _, hi⟩ := hi
          simpa [Trk.own, Trk.L0] using hi)
        have HRN := Lib.hid (run_any w13 0 b3 n c0 [] (Trk.L0 b3) A0 l hm13 rfl Trk.wf_nil (HI.out.keep (HBR.out.below.trans (hb13.mono HBR.out.below.size))) HN.out (fun i hi => HI.out.apart (by rw [HF0.out i hi, hb3]; exact HBR.out.below.size)) HFIT.out (by simp) (by have := HN4.out; omega) (by omega))
        have HB13 := Lib.hid (show Below wr.heap.size wr w13 from hb13)
        have HB3 := Lib.hid hb3
        clear hm13 hb13 hs13 hb3
        go_wp2_with fail
        refine HRN.out.mono ?_
        rintro e w14 ⟨G, gc, zs, rfl, hzl, hzm, hch, L', hmem', hroot', hfp', hzs⟩
        have hb14 : Below wr.heap.size w13 w14 := hch.below HB13.out.size (fun i hi => by rw [HF0.out i hi]; have := HB3.out; omega)
        have hbw14 := HB13.out.trans hb14
        have HANS14 := Lib.hid (HANS.out.keep hbw14)
        have HZS := Lib.hid hzs
        have HZL := Lib.hid hzl
        have HZM := Lib.hid hzm
        have HBZ := Lib.hid (HBR.out.below.trans (hbw14.mono HBR.out.below.size))
        clear hzl hzm hch hmem' hroot' hfp' hzs hb14 hbw14 HRN HBR HANS
        have hn40 := HN4.out
        go_wp2_with fail
        go_loopw [82] (fun ix wx => ∃ (i : Nat), i ≤ n ∧ ix = .int .i64 (i : Int) ∧ Below w14.heap.size w14 wx) (fun ix _ => n - (intOf ix).toNat)
        case atStart => exact ⟨0, Nat.zero_le _, rfl, Below.refl _ _⟩
        case round =>
          obtain ⟨i, hi, rfl, hbx⟩ := hrel
          have HBX := Lib.hid hbx
          clear hbx
          by_cases hlti : i < n
          · have hyi : i < ys.length := by rw [HYS.out]; exact hlti
            have hzi : i < zs.length := by rw [HZL.out]; exact hlti
            have hli : i < l.length := by rw [HN.out]; exact hlti
            have hay := HANS14.out.keep HBX.out
            have haz := HZS.out.keep HBX.out
            have hsm := mt_same (HZM.out i hli hzi) (HMT.out i hli hyi) (haz.ok _ (List.getElem_mem hzi)).bts.byt (hay.ok _ (List.getElem_mem hyi)).bts.byt
            obtain ⟨gy, rfl, hgy, y0, y1, y2⟩ := hay.at HYS.out hyi
            obtain ⟨gz, rfl, hgz, z0, z1, z2⟩ := haz.at HZL.out hzi
            have hcall := same_any wr.drew zs[i] ys[i] ((haz.ok _ (List.getElem_mem hzi)).keep (Tre.below_drew (Below.refl _ _))) ((hay.ok _ (List.getElem_mem hyi)).keep (Tre.below_drew (Below.refl _ _)))
            rw [hsm] at hcall
            clear hsm hay haz
            generalize ys[i] = y at *
            generalize zs[i] = z at *
            obtain ⟨ye, ya, yc0, yd, yg, yk, yn⟩ := y
            obtain ⟨ze, za, zc0, zd, zg, zk, zn⟩ := z
            unfold An.val at hcall
            simp only at y0 y1 y2 z0 z1 z2 hcall
            generalize yd.length = ydl at *
            generalize yn.length = ynl at *
            generalize zd.length = zdl at *
            generalize zn.length = znl at *
            have HCL := Lib.hid (hcall.mono (fun e w' h => show e = .returned (.bool true) ∧ Below wr.heap.size wr w' ∧ w'.cell? ⟨gy, i * 3, none⟩ = some (.int .i64 ye) ∧ w'.cell? ⟨gy, i * 3 + 1, none⟩ = some (.slice ya ydl yc0) ∧ w'.cell? ⟨gy, i * 3 + 2, none⟩ = some (.slice yg ynl yk) ∧ w'.cell? ⟨gz, i * 3, none⟩ = some (.int .i64 ze) ∧ w'.cell? ⟨gz, i * 3 + 1, none⟩ = some (.slice za zdl zc0) ∧ w'.cell? ⟨gz, i * 3 + 2, none⟩ = some (.slice zg znl zk) from by
              have hb := Tre.below_drew h.2
              exact ⟨h.1, hb, (hb.cell (p := ⟨gy, i * 3, none⟩) hgy).trans y0, (hb.cell (p := ⟨gy, i * 3 + 1, none⟩) hgy).trans y1, (hb.cell (p := ⟨gy, i * 3 + 2, none⟩) hgy).trans y2, (hb.cell (p := ⟨gz, i * 3, none⟩) hgz).trans z0, (hb.cell (p := ⟨gz, i * 3 + 1, none⟩) hgz).trans z1, (hb.cell (p := ⟨gz, i * 3 + 2, none⟩) hgz).trans z2⟩))
            have hi0 : (0 : Int) ≤ (i : Int) := by omega
            have hi1 : (i : Int) < (n : Int) := by omega
            clear hcall hyi hzi hli
            go_wp2_with fail
            go_region_held3 (fun W' => W'.cell? ⟨gy, i * 3, none⟩ = some (.int .i64 ye) ∧ W'.cell? ⟨gy, i * 3 + 1, none⟩ = some (.slice ya ydl yc0) ∧ W'.cell? ⟨gy, i * 3 + 2, none⟩ = some (.slice yg ynl yk) ∧ W'.cell? ⟨gz, i * 3, none⟩ = some (.int .i64 ze) ∧ W'.cell? ⟨gz, i * 3 + 1, none⟩ = some (.slice za zdl zc0) ∧ W'.cell? ⟨gz, i * 3 + 2, none⟩ = some (.slice zg znl zk)) (go_keep)
              (first
              | (go_at_call 27
                 with_reducible refine HCL.out.mono ?_
                 rintro e w15 ⟨rfl, hb15, x0, x1, x2, x3, x4, x5⟩
                 have HB15 := Lib.hid hb15
                 clear hb15))
            go_wp2
            exact ⟨⟨i + 1, by omega, by go_num, HBX.out.trans (HB15.out.mono HBX.out.size)⟩, by simp [intOf]; omega⟩
          · have HE := Lib.hid (HBZ.out.trans (HBX.out.mono HBZ.out.size))
            obtain rfl : n = i := by omega
            go_wp2
            go_ret
            exact ⟨rfl, HE.out⟩
  · rw [show decide (FewD l) = false from decide_eq_false hf]
    go_wp2_with fail
    refine (lives_any w2).mono ?_
    rintro e w3 ⟨rfl, hb3⟩
    have HB3 := Lib.hid (HB2.out.trans (hb3.mono HB2.out.size))
    clear hb3
    go_wp2
    go_ret
    exact ⟨rfl, HB3.out⟩
end Mod
end Go.Proofs.YtkhkcfbacnkcnaaGreatDoor
