/- Texts laid together: ModDo, ModRead, ModList, ModWrite, ModMem, ModRun, ModLives, ModFew, ModNamesLaw. -/
import Derived.Test.YtkhkcfbacnkcnaaGreatDoorMc2
import Derived.Test.YtkhkcfbacnkcnaaGreatDoorMc7
import Derived.Test.YtkhkcfbacnkcnaaGreatDoorMc6
import Derived.Deep.RegionHeld3
import Derived.BigCall
import Derived.Test.YtkhkcfbacnkcnaaGreatDoorMc1
import Derived.Test.YtkhkcfbacnkcnaaGreatDoorMc3
import Derived.Test.YtkhkcfbacnkcnaaGreatDoorMc4
import Derived.Test.YtkhkcfbacnkcnaaGreatDoorMc5
/- The program's model: a deed done. -/
namespace Go.Proofs.YtkhkcfbacnkcnaaGreatDoor
open Go.RowKit Go.MapKept
namespace Mod
open Tre (Nm Th addT writeT truncT unlinkT rmdirT readT listT doT)
open Trk (Mem Nd Wf Fp Chg TrkN TrkR Gb)
open Pat (Txs)

/-- what a deed makes of a tree; its error, the bytes, the names that are answered -/
def doM (t : List Th) (k : Int) (p : ByteArray) (x n : Int) (v : ByteArray) : List Th × Int × ByteArray × List ByteArray :=
  if 0 ≤ k ∧ k ≤ 7 then doT t k.toNat p x n v else (t, 1, ⟨#[]⟩, [])
/-- a deed's answer, and the tree behind it -/
def ModR (w : World) (N : Nat) (t : List Th) (L : Nm → Nd) (r : List Th × Int × ByteArray × List ByteArray) (e : Ending) (w' : World) : Prop :=
  ∃ (y : An), e = .returned y.val ∧ y.e = r.2.1 ∧ Crc.str y.d = r.2.2.1 ∧ y.n = r.2.2.2 ∧ AnOk w' y ∧ Chg (Fp t L) w w' ∧ ∃ L', Mem w' (N + 1) r.1 L' ∧ (L' []).b = (L []).b ∧ (∀ i, Fp r.1 L' i → Fp t L i ∨ w.heap.size ≤ i) ∧ ∀ i, Gb y.a i ∨ Gb y.g i → w.heap.size ≤ i ∧ i < w'.heap.size ∧ ¬ Fp r.1 L' i
/-- the deed's box, the answer's -/
abbrev bxD (w : World) (k : Int) (p : ByteArray) (x n : Int) (B : Option Addr) (m d : Nat) : World := (w.alloc (.cells #[.int .i64 k, .string p, .int .i64 x, .int .i64 n, .slice B m d] 58)).alloc (.cells #[.int .i64 0, .slice none 0 0, .slice none 0 0] 64)

theorem m_create (n : Nat) (a : Addr) (w : World) : (method (n + 1) 25 (.pointer (some a)) "Create").run Tryz.prog w = .ok (31, .pointer (some a)) w := by kernel_rfl
theorem m_mkdir (n : Nat) (a : Addr) (w : World) : (method (n + 1) 25 (.pointer (some a)) "Mkdir").run Tryz.prog w = .ok (30, .pointer (some a)) w := by kernel_rfl
theorem m_write (n : Nat) (a : Addr) (w : World) : (method (n + 1) 25 (.pointer (some a)) "Write").run Tryz.prog w = .ok (32, .pointer (some a)) w := by kernel_rfl
theorem m_truncate (n : Nat) (a : Addr) (w : World) : (method (n + 1) 25 (.pointer (some a)) "Truncate").run Tryz.prog w = .ok (42, .pointer (some a)) w := by kernel_rfl
theorem m_unlink (n : Nat) (a : Addr) (w : World) : (method (n + 1) 25 (.pointer (some a)) "Unlink").run Tryz.prog w = .ok (43, .pointer (some a)) w := by kernel_rfl
theorem m_rmdir (n : Nat) (a : Addr) (w : World) : (method (n + 1) 25 (.pointer (some a)) "Rmdir").run Tryz.prog w = .ok (33, .pointer (some a)) w := by kernel_rfl
theorem m_read (n : Nat) (a : Addr) (w : World) : (method (n + 1) 25 (.pointer (some a)) "Read").run Tryz.prog w = .ok (34, .pointer (some a)) w := by kernel_rfl
theorem m_list (n : Nat) (a : Addr) (w : World) : (method (n + 1) 25 (.pointer (some a)) "List").run Tryz.prog w = .ok (44, .pointer (some a)) w := by kernel_rfl

/-- the answer's box, as it was made -/
structure AnB (w : World) (b : Nat) : Prop where
  lt : b < w.heap.size
  c0 : w.cell? ⟨b, 0, none⟩ = some (.int .i64 0)
  c1 : w.cell? ⟨b, 1, none⟩ = some (.slice none 0 0)
  c2 : w.cell? ⟨b, 2, none⟩ = some (.slice none 0 0)
  f0 : w.frozen? ⟨b, 0, none⟩ = false
  f1 : w.frozen? ⟨b, 1, none⟩ = false
  f2 : w.frozen? ⟨b, 2, none⟩ = false
theorem AnB.chg {w w' : World} {F : Nat → Prop} {b : Nat} (h : AnB w b) (hc : Chg F w w') (hb : ¬ F b) : AnB w' b := by
  have hx := hc.block b h.lt hb
  exact ⟨Nat.lt_of_lt_of_le h.lt hc.size, (World.cell?_of_block (w := w) (a := ⟨b, 0, none⟩) hx).trans h.c0, (World.cell?_of_block (w := w) (a := ⟨b, 1, none⟩) hx).trans h.c1, (World.cell?_of_block (w := w) (a := ⟨b, 2, none⟩) hx).trans h.c2, (World.frozen?_of_block (w := w) (a := ⟨b, 0, none⟩) hx).trans h.f0, (World.frozen?_of_block (w := w) (a := ⟨b, 1, none⟩) hx).trans h.f1, (World.frozen?_of_block (w := w) (a := ⟨b, 2, none⟩) hx).trans h.f2⟩
theorem anb_new (w : World) (t : TypeId) : AnB (w.alloc (.cells #[.int .i64 0, .slice none 0 0, .slice none 0 0] t)) w.heap.size := by
  have r := World.rowIs_alloc w #[.int .i64 0, .slice none 0 0, .slice none 0 0] t (fun j => (#[.int .i64 0, .slice none 0 0, .slice none 0 0] : Array Value)[j]!) (fun j hj => by
    have : j < 3 := hj
    match j, this with
    | 0, _ => rfl
    | 1, _ => rfl
    | 2, _ => rfl)
  exact ⟨by simp, Crc.alloc_cell w _ t 0, Crc.alloc_cell w _ t 1, Crc.alloc_cell w _ t 2, r.frozen 0, r.frozen 1, r.frozen 2⟩
/-- an answer without bytes and names, stored -/
theorem mod_fin0 {w w1 w2 w3 : World} {N b : Nat} {t t' : List Th} {L : Nm → Nd} (hM : Mem w N t L) (hB : Below w.heap.size w w1) (hb0 : w.heap.size ≤ b) (hb1 : b < w1.heap.size) (htr : TrkN w1 (N + 1) t L t' w2) (hc : Chg (fun i => i = b) w2 w3) (z : Int) :
    ModR w N t L (t', z, ⟨#[]⟩, []) (.returned (.agg #[.int .i64 z, .slice none 0 0, .slice none 0 0])) w3 := by
  obtain ⟨h1, L', h2, h3, h4⟩ := htr
  refine ⟨⟨z, none, 0, [], none, 0, []⟩, rfl, rfl, rfl, rfl, ⟨⟨fun b hb => by simp at hb, by simp, fun j hj => by simp at hj⟩, Pat.txs_nil _ _⟩, (Chg.after hB h1).trans hc (fun i e => .inr (by rw [e]; exact hb0)), L', h2.chg hc (fun i hi e => ?_), h3, fun i hi => (h4 i hi).imp id (fun e => Nat.le_trans hB.size e), fun i hi => ?_⟩
  · subst e
    rcases h4 _ hi with h | h
    · have := hM.lt h
      omega
    · omega
  · rcases hi with ⟨a, e, _⟩ | ⟨a, e, _⟩ <;> cases e
/-- an answer of new memory, the tree as it was -/
theorem mod_fin1 {w w3 : World} {N : Nat} {t : List Th} {L : Nm → Nd} (hM : Mem w N t L) (hB : Below w.heap.size w w3) (y : An) (hy : AnOk w3 y) (hg : ∀ i, Gb y.a i ∨ Gb y.g i → w.heap.size ≤ i ∧ i < w3.heap.size) {z : Int} {s : ByteArray} {nm : List ByteArray} (h1 : y.e = z) (h2 : Crc.str y.d = s) (h3 : y.n = nm) :
    ModR w N t L (t, z, s, nm) (.returned y.val) w3 :=
  ⟨y, rfl, h1, h2, h3, hy, Chg.of_below hB, L, (hM.keep hB).mono (Nat.le_succ N), rfl, fun _ hi => .inl hi, fun i hi => ⟨(hg i hi).1, (hg i hi).2, fun hf => by have := hM.lt hf; have := (hg i hi).1; omega⟩⟩

theorem anb_at (w : World) (k : Int) (p : ByteArray) (x n : Int) (B : Option Addr) (m d b1 : Nat) (hb1 : b1 = w.heap.size + 1) : AnB (bxD w k p x n B m d) b1 := by
  have := anb_new (w.alloc (.cells #[.int .i64 k, .string p, .int .i64 x, .int .i64 n, .slice B m d] 58)) 64
  rw [show (w.alloc (.cells #[.int .i64 k, .string p, .int .i64 x, .int .i64 n, .slice B m d] 58)).heap.size = b1 by rw [hb1]; simp] at this
  exact this
theorem chg_set3 (w : World) (b : Nat) (v0 v1 v2 : Value) : Chg (fun i => i = b) w (((w.setCell ⟨b, 0, none⟩ v0).setCell ⟨b, 1, none⟩ v1).setCell ⟨b, 2, none⟩ v2) :=
  ((Trk.chg_set w b 0 v0).trans (Trk.chg_set _ b 1 v1) (fun _ h => .inl h)).trans (Trk.chg_set _ b 2 v2) (fun _ h => .inl h)
theorem set3 {w : World} {b : Nat} (h : AnB w b) (v0 v1 v2 : Value) : (((w.setCell ⟨b, 0, none⟩ v0).setCell ⟨b, 1, none⟩ v1).setCell ⟨b, 2, none⟩ v2).cell? ⟨b, 0, none⟩ = some v0 ∧ (((w.setCell ⟨b, 0, none⟩ v0).setCell ⟨b, 1, none⟩ v1).setCell ⟨b, 2, none⟩ v2).cell? ⟨b, 1, none⟩ = some v1 ∧ (((w.setCell ⟨b, 0, none⟩ v0).setCell ⟨b, 1, none⟩ v1).setCell ⟨b, 2, none⟩ v2).cell? ⟨b, 2, none⟩ = some v2 := by
  have o : ∀ (W : World) (i j : Nat) (v u : Value), i ≠ j → W.cell? ⟨b, j, none⟩ = some u → (W.setCell ⟨b, i, none⟩ v).cell? ⟨b, j, none⟩ = some u := fun W i j v u hij hu => by
    rw [World.cell?_setCell_other _ _ _ _ (fun e => by injection e with _ e; omega)]
    exact hu
  refine ⟨?_, ?_, ?_⟩
  · exact o _ 2 0 _ _ (by decide) (o _ 1 0 _ _ (by decide) (World.cell?_setCell_same _ _ _ h.c0))
  · exact o _ 2 1 _ _ (by decide) (World.cell?_setCell_same _ _ _ (o _ 0 1 _ _ (by decide) h.c1))
  · exact World.cell?_setCell_same _ _ _ (o _ 1 2 _ _ (by decide) (o _ 0 2 _ _ (by decide) h.c2))

set_option maxRecDepth 100000 in
set_option maxHeartbeats 4000000 in
theorem do_0 (w : World) (N b0 : Nat) (k : Int) (t : List Th) (L : Nm → Nd) (p : ByteArray) (x n : Int) (m d : Nat) (B : Option Addr) (hM : Mem w N t L) (hb : (L []).b = b0) (hW : Wf t) (hp : p.size < 4294967281) (hN : N ≤ 999999) (hk : k = 0) :
    Calls Tryz.prog 24 #[.iface 25 (.pointer (some ⟨b0, 0, none⟩)), .agg #[.int .i64 k, .string p, .int .i64 x, .int .i64 n, .slice B m d]] w (ModR w N t L ((Tre.addT t p false).1, (Tre.addT t p false).2, ⟨#[]⟩, [])) := by
  subst hk
  have hb0 := ((Below.refl w.heap.size w).alloc (Nat.le_refl _) (.cells #[.int .i64 0, .string p, .int .i64 x, .int .i64 n, .slice B m d] 58)).alloc (by simp) (.cells #[.int .i64 0, .slice none 0 0, .slice none 0 0] 64)
  have HB0 := Lib.hid hb0
  have HC := Lib.hid (Trk.create_any (bxD w 0 p x n B m d) N b0 t L p (hM.keep hb0) hb hW hp (by omega))
  have hme := fun n w => m_create n ⟨b0, 0, none⟩ w
  obtain ⟨b1, hb1⟩ : ∃ b1, b1 = w.heap.size + 1 := ⟨_, rfl⟩
  have HAB := Lib.hid (anb_at w 0 p x n B m d b1 hb1)
  have HB1 := Lib.hid hb1
  have HM := Lib.hid hM
  clear hb0 hM
  go_enter Tryz.func24, Tryz.ntmps24
  go_wp2_with fail
  refine HC.out.mono ?_
  rintro e w2 ⟨rfl, hr⟩
  rw [← hb1]
  have HF := Lib.hid (fun w3 hc => mod_fin0 HM.out HB0.out (by have := HB1.out; omega) HAB.out.lt (hr.to (N' := N + 1) (Nat.le_refl _)) (w3 := w3) hc (Tre.addT t p false).2)
  have hab := HAB.out.chg hr.1 (fun hf => by have := HM.out.lt hf; have := HB1.out; omega)
  have hl := hab.lt
  have h0 := hab.c0
  have h1 := hab.c1
  have h2 := hab.c2
  have f0 := hab.f0
  have f1 := hab.f1
  have f2 := hab.f2
  obtain ⟨z0, z1, z2⟩ := set3 hab (.int .i64 (Tre.addT t p false).2) (.slice none 0 0) (.slice none 0 0)
  have HS3 := Lib.hid (chg_set3 w2 b1 (.int .i64 (Tre.addT t p false).2) (.slice none 0 0) (.slice none 0 0))
  clear hab hr hb1
  generalize Tre.addT t p false = r at *
  go_wp2
  refine bodyPost_ret (v := .agg #[.int .i64 r.2, .slice none 0 0, .slice none 0 0]) ?_ rfl (HF.out _ HS3.out)
  simp [results, Tryz.results24, go_sem, z0, z1, z2]

set_option maxRecDepth 100000 in
set_option maxHeartbeats 4000000 in
theorem do_1 (w : World) (N b0 : Nat) (k : Int) (t : List Th) (L : Nm → Nd) (p : ByteArray) (x n : Int) (m d : Nat) (B : Option Addr) (hM : Mem w N t L) (hb : (L []).b = b0) (hW : Wf t) (hp : p.size < 4294967281) (hN : N ≤ 999999) (hk : k = 1) :
    Calls Tryz.prog 24 #[.iface 25 (.pointer (some ⟨b0, 0, none⟩)), .agg #[.int .i64 k, .string p, .int .i64 x, .int .i64 n, .slice B m d]] w (ModR w N t L ((Tre.addT t p true).1, (Tre.addT t p true).2, ⟨#[]⟩, [])) := by
  subst hk
  have hb0 := ((Below.refl w.heap.size w).alloc (Nat.le_refl _) (.cells #[.int .i64 1, .string p, .int .i64 x, .int .i64 n, .slice B m d] 58)).alloc (by simp) (.cells #[.int .i64 0, .slice none 0 0, .slice none 0 0] 64)
  have HB0 := Lib.hid hb0
  have HC := Lib.hid (Trk.mkdir_any (bxD w 1 p x n B m d) N b0 t L p (hM.keep hb0) hb hW hp (by omega))
  have hme := fun n w => m_mkdir n ⟨b0, 0, none⟩ w
  obtain ⟨b1, hb1⟩ : ∃ b1, b1 = w.heap.size + 1 := ⟨_, rfl⟩
  have HAB := Lib.hid (anb_at w 1 p x n B m d b1 hb1)
  have HB1 := Lib.hid hb1
  have HM := Lib.hid hM
  clear hb0 hM
  go_enter Tryz.func24, Tryz.ntmps24
  go_wp2_with fail
  refine HC.out.mono ?_
  rintro e w2 ⟨rfl, hr⟩
  rw [← hb1]
  have HF := Lib.hid (fun w3 hc => mod_fin0 HM.out HB0.out (by have := HB1.out; omega) HAB.out.lt (hr.to (N' := N + 1) (Nat.le_refl _)) (w3 := w3) hc (Tre.addT t p true).2)
  have hab := HAB.out.chg hr.1 (fun hf => by have := HM.out.lt hf; have := HB1.out; omega)
  have hl := hab.lt
  have h0 := hab.c0
  have h1 := hab.c1
  have h2 := hab.c2
  have f0 := hab.f0
  have f1 := hab.f1
  have f2 := hab.f2
  obtain ⟨z0, z1, z2⟩ := set3 hab (.int .i64 (Tre.addT t p true).2) (.slice none 0 0) (.slice none 0 0)
  have HS3 := Lib.hid (chg_set3 w2 b1 (.int .i64 (Tre.addT t p true).2) (.slice none 0 0) (.slice none 0 0))
  clear hab hr hb1
  generalize Tre.addT t p true = r at *
  go_wp2
  refine bodyPost_ret (v := .agg #[.int .i64 r.2, .slice none 0 0, .slice none 0 0]) ?_ rfl (HF.out _ HS3.out)
  simp [results, Tryz.results24, go_sem, z0, z1, z2]

set_option maxRecDepth 100000 in
set_option maxHeartbeats 4000000 in
theorem do_3 (w : World) (N b0 : Nat) (k : Int) (t : List Th) (L : Nm → Nd) (p : ByteArray) (x n : Int) (m d : Nat) (B : Option Addr) (hM : Mem w N t L) (hb : (L []).b = b0) (hW : Wf t) (hp : p.size < 4294967281) (hk : k = 3) :
    Calls Tryz.prog 24 #[.iface 25 (.pointer (some ⟨b0, 0, none⟩)), .agg #[.int .i64 k, .string p, .int .i64 x, .int .i64 n, .slice B m d]] w (ModR w N t L ((Tre.truncT t p x).1, (Tre.truncT t p x).2, ⟨#[]⟩, [])) := by
  subst hk
  have hb0 := ((Below.refl w.heap.size w).alloc (Nat.le_refl _) (.cells #[.int .i64 3, .string p, .int .i64 x, .int .i64 n, .slice B m d] 58)).alloc (by simp) (.cells #[.int .i64 0, .slice none 0 0, .slice none 0 0] 64)
  have HB0 := Lib.hid hb0
  have HC := Lib.hid (Trk.trunc_any (bxD w 3 p x n B m d) N b0 t L p x (hM.keep hb0) hb hW hp)
  have hme := fun n w => m_truncate n ⟨b0, 0, none⟩ w
  obtain ⟨b1, hb1⟩ : ∃ b1, b1 = w.heap.size + 1 := ⟨_, rfl⟩
  have HAB := Lib.hid (anb_at w 3 p x n B m d b1 hb1)
  have HB1 := Lib.hid hb1
  have HM := Lib.hid hM
  clear hb0 hM
  go_enter Tryz.func24, Tryz.ntmps24
  go_wp2_with fail
  refine HC.out.mono ?_
  rintro e w2 ⟨rfl, hr⟩
  rw [← hb1]
  have HF := Lib.hid (fun w3 hc => mod_fin0 HM.out HB0.out (by have := HB1.out; omega) HAB.out.lt (hr.to (N' := N + 1) (Nat.le_refl _)) (w3 := w3) hc (Tre.truncT t p x).2)
  have hab := HAB.out.chg hr.1 (fun hf => by have := HM.out.lt hf; have := HB1.out; omega)
  have hl := hab.lt
  have h0 := hab.c0
  have h1 := hab.c1
  have h2 := hab.c2
  have f0 := hab.f0
  have f1 := hab.f1
  have f2 := hab.f2
  obtain ⟨z0, z1, z2⟩ := set3 hab (.int .i64 (Tre.truncT t p x).2) (.slice none 0 0) (.slice none 0 0)
  have HS3 := Lib.hid (chg_set3 w2 b1 (.int .i64 (Tre.truncT t p x).2) (.slice none 0 0) (.slice none 0 0))
  clear hab hr hb1
  generalize Tre.truncT t p x = r at *
  go_wp2
  refine bodyPost_ret (v := .agg #[.int .i64 r.2, .slice none 0 0, .slice none 0 0]) ?_ rfl (HF.out _ HS3.out)
  simp [results, Tryz.results24, go_sem, z0, z1, z2]

set_option maxRecDepth 100000 in
set_option maxHeartbeats 4000000 in
theorem do_4 (w : World) (N b0 : Nat) (k : Int) (t : List Th) (L : Nm → Nd) (p : ByteArray) (x n : Int) (m d : Nat) (B : Option Addr) (hM : Mem w N t L) (hb : (L []).b = b0) (hW : Wf t) (hp : p.size < 4294967281) (hk : k = 4) :
    Calls Tryz.prog 24 #[.iface 25 (.pointer (some ⟨b0, 0, none⟩)), .agg #[.int .i64 k, .string p, .int .i64 x, .int .i64 n, .slice B m d]] w (ModR w N t L ((Tre.unlinkT t p).1, (Tre.unlinkT t p).2, ⟨#[]⟩, [])) := by
  subst hk
  have hb0 := ((Below.refl w.heap.size w).alloc (Nat.le_refl _) (.cells #[.int .i64 4, .string p, .int .i64 x, .int .i64 n, .slice B m d] 58)).alloc (by simp) (.cells #[.int .i64 0, .slice none 0 0, .slice none 0 0] 64)
  have HB0 := Lib.hid hb0
  have HC := Lib.hid (Trk.unlink_any (bxD w 4 p x n B m d) N b0 t L p (hM.keep hb0) hb hW hp)
  have hme := fun n w => m_unlink n ⟨b0, 0, none⟩ w
  obtain ⟨b1, hb1⟩ : ∃ b1, b1 = w.heap.size + 1 := ⟨_, rfl⟩
  have HAB := Lib.hid (anb_at w 4 p x n B m d b1 hb1)
  have HB1 := Lib.hid hb1
  have HM := Lib.hid hM
  clear hb0 hM
  go_enter Tryz.func24, Tryz.ntmps24
  go_wp2_with fail
  refine HC.out.mono ?_
  rintro e w2 ⟨rfl, hr⟩
  rw [← hb1]
  have HF := Lib.hid (fun w3 hc => mod_fin0 HM.out HB0.out (by have := HB1.out; omega) HAB.out.lt (hr.to (N' := N + 1) (Nat.le_refl _)) (w3 := w3) hc (Tre.unlinkT t p).2)
  have hab := HAB.out.chg hr.1 (fun hf => by have := HM.out.lt hf; have := HB1.out; omega)
  have hl := hab.lt
  have h0 := hab.c0
  have h1 := hab.c1
  have h2 := hab.c2
  have f0 := hab.f0
  have f1 := hab.f1
  have f2 := hab.f2
  obtain ⟨z0, z1, z2⟩ := set3 hab (.int .i64 (Tre.unlinkT t p).2) (.slice none 0 0) (.slice none 0 0)
  have HS3 := Lib.hid (chg_set3 w2 b1 (.int .i64 (Tre.unlinkT t p).2) (.slice none 0 0) (.slice none 0 0))
  clear hab hr hb1
  generalize Tre.unlinkT t p = r at *
  go_wp2
  refine bodyPost_ret (v := .agg #[.int .i64 r.2, .slice none 0 0, .slice none 0 0]) ?_ rfl (HF.out _ HS3.out)
  simp [results, Tryz.results24, go_sem, z0, z1, z2]

set_option maxRecDepth 100000 in
set_option maxHeartbeats 4000000 in
theorem do_5 (w : World) (N b0 : Nat) (k : Int) (t : List Th) (L : Nm → Nd) (p : ByteArray) (x n : Int) (m d : Nat) (B : Option Addr) (hM : Mem w N t L) (hb : (L []).b = b0) (hW : Wf t) (hp : p.size < 4294967281) (hk : k = 5) :
    Calls Tryz.prog 24 #[.iface 25 (.pointer (some ⟨b0, 0, none⟩)), .agg #[.int .i64 k, .string p, .int .i64 x, .int .i64 n, .slice B m d]] w (ModR w N t L ((Tre.rmdirT t p).1, (Tre.rmdirT t p).2, ⟨#[]⟩, [])) := by
  subst hk
  have hb0 := ((Below.refl w.heap.size w).alloc (Nat.le_refl _) (.cells #[.int .i64 5, .string p, .int .i64 x, .int .i64 n, .slice B m d] 58)).alloc (by simp) (.cells #[.int .i64 0, .slice none 0 0, .slice none 0 0] 64)
  have HB0 := Lib.hid hb0
  have HC := Lib.hid (Trk.rmdir_any (bxD w 5 p x n B m d) N b0 t L p (hM.keep hb0) hb hW hp)
  have hme := fun n w => m_rmdir n ⟨b0, 0, none⟩ w
  obtain ⟨b1, hb1⟩ : ∃ b1, b1 = w.heap.size + 1 := ⟨_, rfl⟩
  have HAB := Lib.hid (anb_at w 5 p x n B m d b1 hb1)
  have HB1 := Lib.hid hb1
  have HM := Lib.hid hM
  clear hb0 hM
  go_enter Tryz.func24, Tryz.ntmps24
  go_wp2_with fail
  refine HC.out.mono ?_
  rintro e w2 ⟨rfl, hr⟩
  rw [← hb1]
  have HF := Lib.hid (fun w3 hc => mod_fin0 HM.out HB0.out (by have := HB1.out; omega) HAB.out.lt (hr.to (N' := N + 1) (Nat.le_refl _)) (w3 := w3) hc (Tre.rmdirT t p).2)
  have hab := HAB.out.chg hr.1 (fun hf => by have := HM.out.lt hf; have := HB1.out; omega)
  have hl := hab.lt
  have h0 := hab.c0
  have h1 := hab.c1
  have h2 := hab.c2
  have f0 := hab.f0
  have f1 := hab.f1
  have f2 := hab.f2
  obtain ⟨z0, z1, z2⟩ := set3 hab (.int .i64 (Tre.rmdirT t p).2) (.slice none 0 0) (.slice none 0 0)
  have HS3 := Lib.hid (chg_set3 w2 b1 (.int .i64 (Tre.rmdirT t p).2) (.slice none 0 0) (.slice none 0 0))
  clear hab hr hb1
  generalize Tre.rmdirT t p = r at *
  go_wp2
  refine bodyPost_ret (v := .agg #[.int .i64 r.2, .slice none 0 0, .slice none 0 0]) ?_ rfl (HF.out _ HS3.out)
  simp [results, Tryz.results24, go_sem, z0, z1, z2]

end Mod
end Go.Proofs.YtkhkcfbacnkcnaaGreatDoor
/- The program's model: what a Read and a List answer. -/
namespace Go.Proofs.YtkhkcfbacnkcnaaGreatDoor
open Go.RowKit Go.MapKept
namespace Mod
open Tre (Nm Th readT listT doT)
open Trk (Mem Nd Wf Fp Chg TrkN TrkR Gb)
open Pat (Txs)

/-- new names that are answered -/
def NewN (w : World) (l : List ByteArray) (e : Ending) (w' : World) : Prop := ∃ G gc, e = .returned (.slice G l.length gc) ∧ w'.ownsRow w.heap.size 9 1 (.slice G l.length gc) l.length (Pat.strs l) ∧ Below w.heap.size w w'
set_option maxRecDepth 100000 in
set_option maxHeartbeats 1000000 in
theorem nclone_any (w : World) (A : Option Addr) (n c : Nat) (l : List ByteArray) (h : Txs w A l) (hA : A = none → c = 0) (hn : l.length = n) (hl : n ≤ 1000000) :
    Calls Tryz.prog 84 #[.slice A n c] w (NewN w l) := by
  have hnil : ∀ W a n c, (binOp .eql 33 (.slice a n c) (.slice none 0 0)).run Tryz.prog W = .ok (.bool a.isNone) W := fun W a n c => by
    exact Lib.run_eql_slice_nil W _ _ a n c 0 0 Tryz.underlying33
  cases A with
  | none =>
    have hl0 : l = [] := by
      cases l with
      | nil => rfl
      | cons b l =>
        obtain ⟨_, _, e, _⟩ := h.at' 0 (by simp)
        cases e
    subst hl0
    have HR := Lib.hid (show NewN w [] (.returned (.slice none 0 0)) w from ⟨none, 0, rfl, World.ownsRow_nil _ _ _ _, Below.refl _ _⟩)
    clear h hn hA
    go_enter Tryz.func84, Tryz.ntmps84
    go_wp2
    go_ret
    exact HR.out
  | some ad =>
    obtain ⟨G, gc, w', hap, ho, hb⟩ := Pat.copy_row c h hA (by omega)
    have HR := Lib.hid (show NewN w l (.returned (.slice G n gc)) w' from ⟨G, gc, by rw [hn], ho, hb⟩)
    rw [hn] at hap
    have HAP := Lib.hid hap
    clear h hn ho hb hap hA
    go_enter Tryz.func84, Tryz.ntmps84
    go_wp2_with (at_builtin; refine Pat.wpList_append_run rfl (.tmp 5) (.tmp 6) 33 rfl _ _ _ rfl rfl HAP.out ?_)
    go_ret
    exact HR.out

/-- an answer of new memory -/
def RdR (w : World) (z : Int) (s : ByteArray) (nm : List ByteArray) (e : Ending) (w' : World) : Prop :=
  ∃ y : An, e = .returned y.val ∧ y.e = z ∧ Crc.str y.d = s ∧ y.n = nm ∧ AnOk w' y ∧ Below w.heap.size w w' ∧ ∀ i, Gb y.a i ∨ Gb y.g i → w.heap.size ≤ i ∧ i < w'.heap.size
theorem anok_nil (w : World) (z : Int) : AnOk w ⟨z, none, 0, [], none, 0, []⟩ := ⟨⟨fun b hb => by simp at hb, by simp, fun j hj => by simp at hj⟩, Pat.txs_nil _ _⟩
theorem read_err {t : List Th} {p : ByteArray} {x n : Int} (h : (readT t p x n).2 ≠ 0) : (readT t p x n).1 = ⟨#[]⟩ := by
  unfold Tre.readT at h ⊢
  split
  · rfl
  · rename_i h1
    rw [if_neg h1] at h
    split
    · rfl
    · rename_i h2
      rw [if_neg h2] at h
      exact absurd rfl h
theorem list_err {t : List Th} {p : ByteArray} (h : (listT t p).2 ≠ 0) : (listT t p).1 = [] := by
  unfold Tre.listT at h ⊢
  split
  · rfl
  · rename_i n hn
    rw [hn] at h
    simp only at h
    split
    · rfl
    · rename_i h1
      rw [if_neg h1] at h
      split
      · rfl
      · rename_i h2
        rw [if_neg h2] at h
        exact absurd rfl h

set_option maxRecDepth 100000 in
set_option maxHeartbeats 4000000 in
theorem mread_any (w : World) (N b0 : Nat) (k : Int) (t : List Th) (L : Nm → Nd) (p : ByteArray) (x n : Int) (m d : Nat) (B : Option Addr) (hM : Mem w N t L) (hb : (L []).b = b0) (hW : Wf t) (hp : p.size < 4294967281) (hx : x ≤ 9223372036854775807) (hn : n ≤ 9223372036854775807) :
    Calls Tryz.prog 58 #[.iface 25 (.pointer (some ⟨b0, 0, none⟩)), .agg #[.int .i64 k, .string p, .int .i64 x, .int .i64 n, .slice B m d]] w (RdR w (readT t p x n).2 (readT t p x n).1 []) := by
  have hb0 := ((Below.refl w.heap.size w).alloc (Nat.le_refl _) (.cells #[.int .i64 k, .string p, .int .i64 x, .int .i64 n, .slice B m d] 58)).alloc (by simp) (.cells #[.int .i64 0, .slice none 0 0, .slice none 0 0] 64)
  have HB0 := Lib.hid hb0
  have HC := Lib.hid (Trk.rd_any (bxD w k p x n B m d) N b0 t L p x n (hM.keep hb0) hb hW hp hx hn)
  have HSM := Lib.hid (Trk.read_small hW p x n)
  have HER := Lib.hid (read_err (t := t) (p := p) (x := x) (n := n))
  have hme := fun n w => m_read n ⟨b0, 0, none⟩ w
  obtain ⟨b1, hb1⟩ : ∃ b1, b1 = w.heap.size + 1 := ⟨_, rfl⟩
  have HAB := Lib.hid (anb_at w k p x n B m d b1 hb1)
  have HB1 := Lib.hid (show w.heap.size ≤ b1 by omega)
  clear hb0 hM
  generalize readT t p x n = r at *
  go_enter Tryz.func58, Tryz.ntmps58
  go_wp2_with fail
  refine HC.out.mono ?_
  rintro e w2 ⟨G, q, gc, rfl, hq, ho, hbz⟩
  rw [← hb1]
  have HB2 := Lib.hid (HB0.out.trans (hbz.mono HB0.out.size))
  have HAB2 := Lib.hid (HAB.out.chg (Chg.of_below (F := fun _ => False) hbz) (fun h => h))
  clear hb1
  by_cases he : r.2 = 0
  · have hne : (r.2 != 0) = false := by rw [he]; rfl
    have hbt : Crc.Bts w2 G (Crc.tx r.1) := Crc.own_bts ho (Trk.tx_byt _) (by have := HSM.out; rw [Crc.tx_len] at hq; omega)
    have hcl := Trk.bclone_any w2 G q gc (Crc.tx r.1) hbt hq (by have := HSM.out; rw [Crc.tx_len] at hq; omega)
    have HCL := Lib.hid hcl
    have HBT := Lib.hid (Trk.tx_byt r.1)
    have HST := Lib.hid (Ent.str_tx r.1)
    have HLQ := Lib.hid (show q ≤ 1000000000 by have := HSM.out; rw [Crc.tx_len] at hq; omega)
    rw [he]
    have HE := Lib.hid he
    have HQ := Lib.hid hq
    clear hbz ho hq hbt hcl he
    generalize Crc.tx r.1 = l at *
    go_wp2_with fail
    refine HCL.out.mono ?_
    rintro e w3 ⟨G3, g3, rfl, ho3, hb3⟩
    have HB3 := Lib.hid (HB2.out.trans (hb3.mono HB2.out.size))
    have hab := HAB2.out.chg (Chg.of_below (F := fun _ => False) hb3) (fun h => h)
    obtain ⟨z0, z1, z2⟩ := set3 hab (.int .i64 0) (.slice G3 l.length g3) (.slice none 0 0)
    have hs3 := chg_set3 w3 b1 (.int .i64 0) (.slice G3 l.length g3) (.slice none 0 0)
    have hbx := HAB2.out.lt
    have HF := Lib.hid (show RdR w 0 r.1 [] (.returned (.agg #[.int .i64 0, .slice G3 l.length g3, .slice none 0 0])) (((w3.setCell ⟨b1, 0, none⟩ (.int .i64 0)).setCell ⟨b1, 1, none⟩ (.slice G3 l.length g3)).setCell ⟨b1, 2, none⟩ (.slice none 0 0)) from by
      have ho4 := Trk.own_chg ho3 hs3 (fun g hg => by have := Crc.row_base_lt ho3 hg; omega)
      refine ⟨⟨0, G3, g3, l, none, 0, []⟩, rfl, rfl, HST.out, rfl, ⟨Crc.own_bts ho4 HBT.out (by have := HQ.out; have := HLQ.out; show l.length ≤ _; omega), Pat.txs_nil _ _⟩, HB3.out.trans (hs3.below HB3.out.size (fun i e => by rw [e]; exact HB1.out)), fun i hi => ?_⟩
      rcases hi with hi | ⟨a, e, _⟩
      · have h1 := Trk.gb_row ho4 hi
        exact ⟨Nat.le_trans HB2.out.size h1.1, h1.2⟩
      · cases e)
    have hl := hab.lt
    have h0 := hab.c0
    have h1 := hab.c1
    have h2 := hab.c2
    have f0 := hab.f0
    have f1 := hab.f1
    have f2 := hab.f2
    clear hab hs3 ho3 hb3 hbx
    generalize l.length = ln at *
    go_wp2
    refine bodyPost_ret (v := .agg #[.int .i64 0, .slice G3 ln g3, .slice none 0 0]) ?_ rfl (by rw [HE.out]; exact HF.out)
    simp [results, Tryz.results58, go_sem, z0, z1, z2]
  · have hne : (r.2 != 0) = true := bne_iff_ne.2 he
    have HE := Lib.hid (HER.out he)
    have hab := HAB2.out
    obtain ⟨z0, z1, z2⟩ := set3 hab (.int .i64 r.2) (.slice none 0 0) (.slice none 0 0)
    have hs3 := chg_set3 w2 b1 (.int .i64 r.2) (.slice none 0 0) (.slice none 0 0)
    have HF := Lib.hid (show RdR w r.2 r.1 [] (.returned (.agg #[.int .i64 r.2, .slice none 0 0, .slice none 0 0])) (((w2.setCell ⟨b1, 0, none⟩ (.int .i64 r.2)).setCell ⟨b1, 1, none⟩ (.slice none 0 0)).setCell ⟨b1, 2, none⟩ (.slice none 0 0)) from by
      refine ⟨⟨r.2, none, 0, [], none, 0, []⟩, rfl, rfl, by rw [HE.out]; rfl, rfl, anok_nil _ _, HB2.out.trans (hs3.below HB2.out.size (fun i e => by rw [e]; exact HB1.out)), fun i hi => ?_⟩
      rcases hi with ⟨a, e, _⟩ | ⟨a, e, _⟩ <;> cases e)
    have hl := hab.lt
    have h0 := hab.c0
    have h1 := hab.c1
    have h2 := hab.c2
    have f0 := hab.f0
    have f1 := hab.f1
    have f2 := hab.f2
    clear hab hs3 ho hbz he
    obtain ⟨rs, rz⟩ := r
    simp only at hne z0 z1 z2 HF
    go_wp2
    refine bodyPost_ret (v := .agg #[.int .i64 rz, .slice none 0 0, .slice none 0 0]) ?_ rfl HF.out
    simp [results, Tryz.results58, go_sem, z0, z1, z2]
end Mod
end Go.Proofs.YtkhkcfbacnkcnaaGreatDoor
/- The program's model: what a List answers; deeds that read. -/
namespace Go.Proofs.YtkhkcfbacnkcnaaGreatDoor
open Go.RowKit Go.MapKept
namespace Mod
open Tre (Nm Th readT listT doT)
open Trk (Mem Nd Wf Fp Chg TrkN TrkR Gb)
open Pat (Txs)

set_option maxRecDepth 100000 in
set_option maxHeartbeats 4000000 in
theorem mlist_any (w : World) (N b0 : Nat) (k : Int) (t : List Th) (L : Nm → Nd) (p : ByteArray) (x n : Int) (m d : Nat) (B : Option Addr) (hM : Mem w N t L) (hb : (L []).b = b0) (hW : Wf t) (hp : p.size < 4294967281) (hl : t.length ≤ 100000) :
    Calls Tryz.prog 59 #[.iface 25 (.pointer (some ⟨b0, 0, none⟩)), .agg #[.int .i64 k, .string p, .int .i64 x, .int .i64 n, .slice B m d]] w (RdR w (listT t p).2 ⟨#[]⟩ (listT t p).1) := by
  have hb0 := ((Below.refl w.heap.size w).alloc (Nat.le_refl _) (.cells #[.int .i64 k, .string p, .int .i64 x, .int .i64 n, .slice B m d] 58)).alloc (by simp) (.cells #[.int .i64 0, .slice none 0 0, .slice none 0 0] 64)
  have HB0 := Lib.hid hb0
  have HC := Lib.hid (Trk.list_any (bxD w k p x n B m d) N b0 t L p (hM.keep hb0) hb hW hp (by omega))
  have HSM := Lib.hid (Trk.list_small hW p)
  have HLN := Lib.hid (Nat.le_trans (Trk.list_len t p) hl)
  have HER := Lib.hid (list_err (t := t) (p := p))
  have hme := fun n w => m_list n ⟨b0, 0, none⟩ w
  obtain ⟨b1, hb1⟩ : ∃ b1, b1 = w.heap.size + 1 := ⟨_, rfl⟩
  have HAB := Lib.hid (anb_at w k p x n B m d b1 hb1)
  have HB1 := Lib.hid (show w.heap.size ≤ b1 by omega)
  clear hb0 hM hl
  generalize listT t p = r at *
  go_enter Tryz.func59, Tryz.ntmps59
  go_wp2_with fail
  refine HC.out.mono ?_
  rintro e w2 ⟨G, gc, rfl, ho, hbz⟩
  rw [← hb1]
  have HB2 := Lib.hid (HB0.out.trans (hbz.mono HB0.out.size))
  have HAB2 := Lib.hid (HAB.out.chg (Chg.of_below (F := fun _ => False) hbz) (fun h => h))
  clear hb1
  by_cases he : r.2 = 0
  · have hne : (r.2 != 0) = false := by rw [he]; rfl
    have hgn : G = none → gc = 0 := by
      rintro rfl
      rcases ho.2 with ⟨e, _⟩ | ⟨g, cap, cur, e, _⟩
      · injection e
      · cases e
    have hcl := nclone_any w2 G r.1.length gc r.1 (Pat.own_txs ho (fun s hs => by have := HSM.out s hs; omega) (by have := HLN.out; omega)).1 hgn rfl (by have := HLN.out; omega)
    have HCL := Lib.hid hcl
    rw [he]
    have HE := Lib.hid he
    clear hbz ho hcl he hgn
    generalize hln : r.1.length = ln at *
    have HLL := Lib.hid hln
    clear hln
    go_wp2_with fail
    refine HCL.out.mono ?_
    rintro e w3 ⟨G3, g3, rfl, ho3, hb3⟩
    rw [HLL.out] at ho3
    rw [HLL.out]
    have HB3 := Lib.hid (HB2.out.trans (hb3.mono HB2.out.size))
    have hab := HAB2.out.chg (Chg.of_below (F := fun _ => False) hb3) (fun h => h)
    obtain ⟨z0, z1, z2⟩ := set3 hab (.int .i64 0) (.slice none 0 0) (.slice G3 ln g3)
    have hs3 := chg_set3 w3 b1 (.int .i64 0) (.slice none 0 0) (.slice G3 ln g3)
    have hbx := HAB2.out.lt
    have HF := Lib.hid (show RdR w 0 ⟨#[]⟩ r.1 (.returned (.agg #[.int .i64 0, .slice none 0 0, .slice G3 ln g3])) (((w3.setCell ⟨b1, 0, none⟩ (.int .i64 0)).setCell ⟨b1, 1, none⟩ (.slice none 0 0)).setCell ⟨b1, 2, none⟩ (.slice G3 ln g3)) from by
      have ho4 := Trk.own_chg ho3 hs3 (fun g hg => by have := Crc.row_base_lt ho3 hg; omega)
      refine ⟨⟨0, none, 0, [], G3, g3, r.1⟩, by rw [← HLL.out]; rfl, rfl, rfl, rfl, ⟨⟨fun b hb => by simp at hb, by simp, fun j hj => by simp at hj⟩, (Pat.own_txs ho4 (fun s hs => by have := HSM.out s hs; omega) (by have := HLN.out; have := HLL.out; omega)).1⟩, HB3.out.trans (hs3.below HB3.out.size (fun i e => by rw [e]; exact HB1.out)), fun i hi => ?_⟩
      rcases hi with ⟨a, e, _⟩ | hi
      · cases e
      · have h1 := Trk.gb_row ho4 hi
        exact ⟨Nat.le_trans HB2.out.size h1.1, h1.2⟩)
    have hl := hab.lt
    have h0 := hab.c0
    have h1 := hab.c1
    have h2 := hab.c2
    have f0 := hab.f0
    have f1 := hab.f1
    have f2 := hab.f2
    clear hab hs3 ho3 hb3 hbx
    go_wp2
    refine bodyPost_ret (v := .agg #[.int .i64 0, .slice none 0 0, .slice G3 ln g3]) ?_ rfl (by rw [HE.out]; exact HF.out)
    simp [results, Tryz.results59, go_sem, z0, z1, z2]
  · have hne : (r.2 != 0) = true := bne_iff_ne.2 he
    have HE := Lib.hid (HER.out he)
    have hab := HAB2.out
    obtain ⟨z0, z1, z2⟩ := set3 hab (.int .i64 r.2) (.slice none 0 0) (.slice none 0 0)
    have hs3 := chg_set3 w2 b1 (.int .i64 r.2) (.slice none 0 0) (.slice none 0 0)
    have HF := Lib.hid (show RdR w r.2 ⟨#[]⟩ r.1 (.returned (.agg #[.int .i64 r.2, .slice none 0 0, .slice none 0 0])) (((w2.setCell ⟨b1, 0, none⟩ (.int .i64 r.2)).setCell ⟨b1, 1, none⟩ (.slice none 0 0)).setCell ⟨b1, 2, none⟩ (.slice none 0 0)) from by
      refine ⟨⟨r.2, none, 0, [], none, 0, []⟩, rfl, rfl, rfl, HE.out.symm, anok_nil _ _, HB2.out.trans (hs3.below HB2.out.size (fun i e => by rw [e]; exact HB1.out)), fun i hi => ?_⟩
      rcases hi with ⟨a, e, _⟩ | ⟨a, e, _⟩ <;> cases e)
    have hl := hab.lt
    have h0 := hab.c0
    have h1 := hab.c1
    have h2 := hab.c2
    have f0 := hab.f0
    have f1 := hab.f1
    have f2 := hab.f2
    clear hab hs3 ho hbz he
    obtain ⟨rs, rz⟩ := r
    simp only at hne z0 z1 z2 HF
    generalize rs.length = ln at *
    go_wp2
    refine bodyPost_ret (v := .agg #[.int .i64 rz, .slice none 0 0, .slice none 0 0]) ?_ rfl HF.out
    simp [results, Tryz.results59, go_sem, z0, z1, z2]

/-- what was answered, stored -/
theorem mod_fin2 {w w1 w2 w3 : World} {N b : Nat} {t : List Th} {L : Nm → Nd} (hM : Mem w N t L) (hB : Below w.heap.size w w1) (hb0 : w.heap.size ≤ b) (hb1 : b < w1.heap.size) {z : Int} {s : ByteArray} {nm : List ByteArray} {e : Ending} (h : RdR w1 z s nm e w2) (hc : Chg (fun i => i = b) w2 w3) : ModR w N t L (t, z, s, nm) e w3 := by
  obtain ⟨y, h1, h2, h3, h4, h5, h6, h7⟩ := h
  have hb2 := hB.trans (h6.mono hB.size)
  have hb3 := hb2.trans (hc.below hb2.size (fun i e => by rw [e]; exact hb0))
  subst h1
  refine mod_fin1 hM hb3 y ⟨?_, ?_⟩ (fun i hi => ?_) h2 h3 h4
  · exact Trk.bts_chg h5.bts hc (fun ad e _ e2 => by have := (h7 ad.block (.inl ⟨ad, e, rfl⟩)).1; omega)
  · exact Trk.txs_chg h5.txs hc (fun ad e _ e2 => by have := (h7 ad.block (.inr ⟨ad, e, rfl⟩)).1; omega)
  · obtain ⟨g1, g2⟩ := h7 i hi
    exact ⟨Nat.le_trans hB.size g1, Nat.lt_of_lt_of_le g2 hc.size⟩

set_option maxRecDepth 100000 in
set_option maxHeartbeats 4000000 in
theorem do_6 (w : World) (N b0 : Nat) (k : Int) (t : List Th) (L : Nm → Nd) (p : ByteArray) (x n : Int) (m d : Nat) (B : Option Addr) (hM : Mem w N t L) (hb : (L []).b = b0) (hW : Wf t) (hp : p.size < 4294967281) (hx : x ≤ 9223372036854775807) (hn : n ≤ 9223372036854775807) (hk : k = 6) :
    Calls Tryz.prog 24 #[.iface 25 (.pointer (some ⟨b0, 0, none⟩)), .agg #[.int .i64 k, .string p, .int .i64 x, .int .i64 n, .slice B m d]] w (ModR w N t L (t, (readT t p x n).2, (readT t p x n).1, [])) := by
  subst hk
  have hb0 := ((Below.refl w.heap.size w).alloc (Nat.le_refl _) (.cells #[.int .i64 6, .string p, .int .i64 x, .int .i64 n, .slice B m d] 58)).alloc (by simp) (.cells #[.int .i64 0, .slice none 0 0, .slice none 0 0] 64)
  have HB0 := Lib.hid hb0
  have HC := Lib.hid (mread_any (bxD w 6 p x n B m d) N b0 6 t L p x n m d B (hM.keep hb0) hb hW hp hx hn)
  obtain ⟨b1, hb1⟩ : ∃ b1, b1 = w.heap.size + 1 := ⟨_, rfl⟩
  have HAB := Lib.hid (anb_at w 6 p x n B m d b1 hb1)
  have HB1 := Lib.hid (show w.heap.size ≤ b1 by omega)
  have HM := Lib.hid hM
  clear hb0 hM
  generalize readT t p x n = r at *
  go_enter Tryz.func24, Tryz.ntmps24
  go_wp2_with fail
  refine HC.out.mono ?_
  intro e w2 hr
  rw [← hb1]
  have HF := Lib.hid (fun w3 hc => mod_fin2 HM.out HB0.out HB1.out HAB.out.lt hr (w3 := w3) hc)
  obtain ⟨y, rfl, -, -, -, -, h6, -⟩ := hr
  have hab := HAB.out.chg (Chg.of_below (F := fun _ => False) h6) (fun h => h)
  obtain ⟨ye, ya, yc, yd, yg, yk, yn⟩ := y
  unfold An.val at *
  simp only at HF ⊢
  generalize yd.length = dl at *
  generalize yn.length = nl at *
  obtain ⟨z0, z1, z2⟩ := set3 hab (.int .i64 ye) (.slice ya dl yc) (.slice yg nl yk)
  have HS3 := Lib.hid (chg_set3 w2 b1 (.int .i64 ye) (.slice ya dl yc) (.slice yg nl yk))
  have hl := hab.lt
  have h0 := hab.c0
  have h1 := hab.c1
  have h2 := hab.c2
  have f0 := hab.f0
  have f1 := hab.f1
  have f2 := hab.f2
  clear hab h6 hb1
  go_wp2
  refine bodyPost_ret (v := .agg #[.int .i64 ye, .slice ya dl yc, .slice yg nl yk]) ?_ rfl (HF.out _ HS3.out)
  simp [results, Tryz.results24, go_sem, z0, z1, z2]

set_option maxRecDepth 100000 in
set_option maxHeartbeats 4000000 in
theorem do_7 (w : World) (N b0 : Nat) (k : Int) (t : List Th) (L : Nm → Nd) (p : ByteArray) (x n : Int) (m d : Nat) (B : Option Addr) (hM : Mem w N t L) (hb : (L []).b = b0) (hW : Wf t) (hp : p.size < 4294967281) (hl : t.length ≤ 100000) (hk : k = 7) :
    Calls Tryz.prog 24 #[.iface 25 (.pointer (some ⟨b0, 0, none⟩)), .agg #[.int .i64 k, .string p, .int .i64 x, .int .i64 n, .slice B m d]] w (ModR w N t L (t, (listT t p).2, ⟨#[]⟩, (listT t p).1)) := by
  subst hk
  have hb0 := ((Below.refl w.heap.size w).alloc (Nat.le_refl _) (.cells #[.int .i64 7, .string p, .int .i64 x, .int .i64 n, .slice B m d] 58)).alloc (by simp) (.cells #[.int .i64 0, .slice none 0 0, .slice none 0 0] 64)
  have HB0 := Lib.hid hb0
  have HC := Lib.hid (mlist_any (bxD w 7 p x n B m d) N b0 7 t L p x n m d B (hM.keep hb0) hb hW hp hl)
  obtain ⟨b1, hb1⟩ : ∃ b1, b1 = w.heap.size + 1 := ⟨_, rfl⟩
  have HAB := Lib.hid (anb_at w 7 p x n B m d b1 hb1)
  have HB1 := Lib.hid (show w.heap.size ≤ b1 by omega)
  have HM := Lib.hid hM
  clear hb0 hM hl
  generalize listT t p = r at *
  go_enter Tryz.func24, Tryz.ntmps24
  go_wp2_with fail
  refine HC.out.mono ?_
  intro e w2 hr
  rw [← hb1]
  have HF := Lib.hid (fun w3 hc => mod_fin2 HM.out HB0.out HB1.out HAB.out.lt hr (w3 := w3) hc)
  obtain ⟨y, rfl, -, -, -, -, h6, -⟩ := hr
  have hab := HAB.out.chg (Chg.of_below (F := fun _ => False) h6) (fun h => h)
  obtain ⟨ye, ya, yc, yd, yg, yk, yn⟩ := y
  unfold An.val at *
  simp only at HF ⊢
  generalize yd.length = dl at *
  generalize yn.length = nl at *
  obtain ⟨z0, z1, z2⟩ := set3 hab (.int .i64 ye) (.slice ya dl yc) (.slice yg nl yk)
  have HS3 := Lib.hid (chg_set3 w2 b1 (.int .i64 ye) (.slice ya dl yc) (.slice yg nl yk))
  have hl := hab.lt
  have h0 := hab.c0
  have h1 := hab.c1
  have h2 := hab.c2
  have f0 := hab.f0
  have f1 := hab.f1
  have f2 := hab.f2
  clear hab h6 hb1
  go_wp2
  refine bodyPost_ret (v := .agg #[.int .i64 ye, .slice ya dl yc, .slice yg nl yk]) ?_ rfl (HF.out _ HS3.out)
  simp [results, Tryz.results24, go_sem, z0, z1, z2]
end Mod
end Go.Proofs.YtkhkcfbacnkcnaaGreatDoor
/- The program's model: a Write; deeds of any kind. -/
namespace Go.Proofs.YtkhkcfbacnkcnaaGreatDoor
open Go.RowKit Go.MapKept
namespace Mod
open Tre (Nm Th readT listT doT writeT)
open Trk (Mem Nd Wf Fp Chg TrkN TrkR Gb)
open Pat (Txs)

theorem ded_cells (w : World) (k : Int) (p : ByteArray) (x n : Int) (B : Option Addr) (m d : Nat) : (bxD w k p x n B m d).cell? ⟨w.heap.size, 1, none⟩ = some (.string p) ∧ (bxD w k p x n B m d).cell? ⟨w.heap.size, 2, none⟩ = some (.int .i64 x) ∧ (bxD w k p x n B m d).cell? ⟨w.heap.size, 4, none⟩ = some (.slice B m d) := by
  have o : ∀ j v, (w.alloc (.cells #[.int .i64 k, .string p, .int .i64 x, .int .i64 n, .slice B m d] 58)).cell? ⟨w.heap.size, j, none⟩ = some v → (bxD w k p x n B m d).cell? ⟨w.heap.size, j, none⟩ = some v := fun j v h => by
    rw [World.cell?_alloc_old _ _ _ (by simp)]
    exact h
  exact ⟨o 1 _ (Crc.alloc_cell w _ _ 1), o 2 _ (Crc.alloc_cell w _ _ 2), o 4 _ (Crc.alloc_cell w _ _ 4)⟩

theorem nil_write (n : Nat) (a : Addr) (w : World) : (nilAhead (n + 1) 25 (.pointer (some a)) "Write").run Tryz.prog w = .ok (some false) w := by kernel_rfl
theorem chg_weak {F G : Nat → Prop} {w w' : World} (h : Chg F w w') (hG : ∀ i, F i → G i) : Chg G w w' := ⟨h.os, h.tape, h.output, h.size, fun k hk hF => h.block k hk (fun hf => hF (hG k hf))⟩

set_option maxRecDepth 100000 in
set_option maxHeartbeats 4000000 in
theorem do_2 (w : World) (N b0 : Nat) (k : Int) (t : List Th) (L : Nm → Nd) (p : ByteArray) (x n : Int) (m d : Nat) (B : Option Addr) (hM : Mem w N t L) (hb : (L []).b = b0) (hW : Wf t) (hp : p.size < 4294967281) (bs : List Nat) (hm : bs.length = m) (hml : m ≤ 1000000) (hB : Crc.Bts w B bs) (hk : k = 2) :
    Calls Tryz.prog 24 #[.iface 25 (.pointer (some ⟨b0, 0, none⟩)), .agg #[.int .i64 k, .string p, .int .i64 x, .int .i64 n, .slice B m d]] w (ModR w N t L ((writeT t p x (Crc.str bs)).1, (writeT t p x (Crc.str bs)).2, ⟨#[]⟩, [])) := by
  subst hk
  have hb0 := ((Below.refl w.heap.size w).alloc (Nat.le_refl _) (.cells #[.int .i64 2, .string p, .int .i64 x, .int .i64 n, .slice B m d] 58)).alloc (by simp) (.cells #[.int .i64 0, .slice none 0 0, .slice none 0 0] 64)
  have hbd : Below w.heap.size w (bxD w 2 p x n B m d).drew := hb0.trans (Tre.below_drew (Below.refl _ _) |>.mono hb0.size)
  have HB0 := Lib.hid (show Below w.heap.size w (bxD w 2 p x n B m d) from hb0)
  obtain ⟨b1, hb1⟩ : ∃ b1, b1 = w.heap.size + 1 := ⟨_, rfl⟩
  obtain ⟨bd, hbdd⟩ : ∃ bd, bd = w.heap.size := ⟨_, rfl⟩
  have HAB := Lib.hid (anb_at w 2 p x n B m d b1 hb1)
  have HB1 := Lib.hid (show b1 = w.heap.size + 1 ∧ bd = w.heap.size from ⟨hb1, hbdd⟩)
  have hdc := ded_cells w 2 p x n B m d
  rw [← hbdd] at hdc
  have HDC := Lib.hid hdc
  have HM := Lib.hid hM
  have hme := fun n w => m_write n ⟨b0, 0, none⟩ w
  have hni := fun n w => nil_write n ⟨b0, 0, none⟩ w
  have HSZ := Lib.hid (show (bxD w 2 p x n B m d).heap.size = b1 + 1 by rw [hb1]; simp)
  have HDW := Lib.hid (fun (W w' : World) (hbw : Below (bxD w 2 p x n B m d).heap.size (bxD w 2 p x n B m d) W) (hc : Chg (fun i => Fp t L i ∨ i = b1) W w') => show w'.cell? ⟨bd, 1, none⟩ = some (.string p) ∧ w'.cell? ⟨bd, 2, none⟩ = some (.int .i64 x) ∧ w'.cell? ⟨bd, 4, none⟩ = some (.slice B m d) from by
    have hlt : bd < (bxD w 2 p x n B m d).heap.size := by rw [HSZ.out]; omega
    have hx := (hc.block bd (Nat.lt_of_lt_of_le hlt hbw.size) (fun hf => by rcases hf with hf | hf; (have := hM.lt hf; omega); omega)).trans (hbw.block bd hlt)
    exact ⟨(World.cell?_of_block (a := ⟨bd, 1, none⟩) hx).trans hdc.1, (World.cell?_of_block (a := ⟨bd, 2, none⟩) hx).trans hdc.2.1, (World.cell?_of_block (a := ⟨bd, 4, none⟩) hx).trans hdc.2.2⟩)
  have HWR := Lib.hid (fun (W : World) (G : Option Addr) (gc : Nat) (hbw : Below (bxD w 2 p x n B m d).heap.size (bxD w 2 p x n B m d) W) (hG : W.ownsRow (bxD w 2 p x n B m d).heap.size 5 1 (.slice G m gc) m (Crc.u8s bs)) => show Calls Tryz.prog 32 #[.pointer (some ⟨b0, 0, none⟩), .string p, .int .i64 x, .slice G m gc] W (fun e w' => e = .returned (.int .i64 (writeT t p x (Crc.str bs)).2) ∧ TrkN (bxD w 2 p x n B m d) (N + 1) t L (writeT t p x (Crc.str bs)).1 w' ∧ AnB w' b1 ∧ (w'.cell? ⟨bd, 1, none⟩ = some (.string p) ∧ w'.cell? ⟨bd, 2, none⟩ = some (.int .i64 x) ∧ w'.cell? ⟨bd, 4, none⟩ = some (.slice B m d)) ∧ ∀ v0 v1 v2 : Value, (((w'.setCell ⟨b1, 0, none⟩ v0).setCell ⟨b1, 1, none⟩ v1).setCell ⟨b1, 2, none⟩ v2).cell? ⟨bd, 1, none⟩ = some (.string p) ∧ (((w'.setCell ⟨b1, 0, none⟩ v0).setCell ⟨b1, 1, none⟩ v1).setCell ⟨b1, 2, none⟩ v2).cell? ⟨bd, 2, none⟩ = some (.int .i64 x) ∧ (((w'.setCell ⟨b1, 0, none⟩ v0).setCell ⟨b1, 1, none⟩ v1).setCell ⟨b1, 2, none⟩ v2).cell? ⟨bd, 4, none⟩ = some (.slice B m d)) from by
    have hb2 := hb0.trans (hbw.mono hb0.size)
    refine (Trk.wr_any W N b0 t L p x m gc G bs (hM.keep hb2) hb hW hp hm hml (Crc.own_bts hG hB.byt (by omega)) (fun ad e _ hf => by have h1 := hM.lt hf; have h2 := (Trk.gb_row hG ⟨ad, e, rfl⟩).1; have := HSZ.out; omega)).mono (fun e w' h => ⟨h.1, TrkN.after hbw (h.2.to (N' := N + 1) (Nat.le_refl _)), ?_, ?_, fun v0 v1 v2 => ?_⟩)
    · exact ((anb_at w 2 p x n B m d b1 hb1).chg (Chg.of_below (F := fun _ => False) hbw) (fun h => h)).chg h.2.1 (fun hf => by have := hM.lt hf; omega)
    · exact HDW.out W w' hbw (chg_weak h.2.1 (fun _ h => .inl h))
    · exact HDW.out W _ hbw (Chg.trans (chg_weak h.2.1 (fun _ h => .inl h)) (chg_set3 w' b1 v0 v1 v2) (fun _ h => .inl (.inr h))))
  have HCL := Lib.hid ((Trk.bclone_any (bxD w 2 p x n B m d).drew B m d bs (hB.keep hbd) hm (by omega)).mono (fun e w2 h => show ∃ (G : Option Addr) (gc : Nat), e = .returned (.slice G m gc) ∧ (w2.cell? ⟨bd, 1, none⟩ = some (.string p) ∧ w2.cell? ⟨bd, 2, none⟩ = some (.int .i64 x) ∧ w2.cell? ⟨bd, 4, none⟩ = some (.slice B m d)) ∧ Calls Tryz.prog 32 #[.pointer (some ⟨b0, 0, none⟩), .string p, .int .i64 x, .slice G m gc] w2 _ from by
    obtain ⟨G, gc, h1, h2, h3⟩ := h
    rw [hm] at h1 h2
    have hb3 : Below (bxD w 2 p x n B m d).heap.size (bxD w 2 p x n B m d) w2 := Tre.below_drew h3
    exact ⟨G, gc, h1, HDW.out w2 w2 hb3 (Chg.refl _ _), HWR.out w2 G gc hb3 h2⟩))
  clear hb0 hbd hdc hM hB
  go_enter Tryz.func24, Tryz.ntmps24
  go_upto_region 7 with fail
  rw [← hb1, ← hbdd]
  have hcl1 := HDC.out.1
  have hcl2 := HDC.out.2.1
  have hcl4 := HDC.out.2.2
  generalize hw1 : bxD w 2 p x n B m d = w1 at *
  rw [show (w.alloc (.cells #[.int .i64 2, .string p, .int .i64 x, .int .i64 n, .slice B m d] 58)).alloc (.cells #[.int .i64 0, .slice none 0 0, .slice none 0 0] 64) = w1 from hw1]
  clear hw1 hb1 hbdd
  go_region_held3 (fun W' => W'.cell? ⟨bd, 1, none⟩ = some (.string p) ∧ W'.cell? ⟨bd, 2, none⟩ = some (.int .i64 x) ∧ W'.cell? ⟨bd, 4, none⟩ = some (.slice B m d)) (go_keep)
    (first
    | (go_at_call 57
       with_reducible refine HCL.out.mono ?_
       rintro e w2 ⟨G, gc, rfl, ⟨k1, k2, k4⟩, hwr⟩)
    | (go_at_call 32
       with_reducible refine Calls.mono (by assumption) ?_
       rintro e w3 ⟨rfl, htr, hab, ⟨l1, l2, l4⟩, hz⟩
       obtain ⟨y1, y2, y4⟩ := hz (.int .i64 (writeT t p x (Crc.str bs)).2) (.slice none 0 0) (.slice none 0 0)
       have hal := hab.lt
       have ha0 := hab.c0
       have ha1 := hab.c1
       have ha2 := hab.c2
       have hf0 := hab.f0
       have hf1 := hab.f1
       have hf2 := hab.f2
       have HTR := Lib.hid htr
       have HAB := Lib.hid hab
       clear htr hab hz))
  all_goals
    have HF := Lib.hid (mod_fin0 HM.out HB0.out (by have := HB1.out; omega) (by have := HSZ.out; omega) HTR.out (chg_set3 w3 b1 (.int .i64 (writeT t p x (Crc.str bs)).2) (.slice none 0 0) (.slice none 0 0)) (writeT t p x (Crc.str bs)).2)
    obtain ⟨z0, z1, z2⟩ := set3 HAB.out (.int .i64 (writeT t p x (Crc.str bs)).2) (.slice none 0 0) (.slice none 0 0)
    generalize writeT t p x (Crc.str bs) = r at *
    go_wp2
    refine bodyPost_ret (v := .agg #[.int .i64 r.2, .slice none 0 0, .slice none 0 0]) ?_ rfl HF.out
    simp [results, Tryz.results24, go_sem, z0, z1, z2]

set_option maxRecDepth 100000 in
set_option maxHeartbeats 4000000 in
theorem do_none (w : World) (N b0 : Nat) (k : Int) (t : List Th) (L : Nm → Nd) (p : ByteArray) (x n : Int) (m d : Nat) (B : Option Addr) (hM : Mem w N t L) (hk : ¬ (0 ≤ k ∧ k ≤ 7)) :
    Calls Tryz.prog 24 #[.iface 25 (.pointer (some ⟨b0, 0, none⟩)), .agg #[.int .i64 k, .string p, .int .i64 x, .int .i64 n, .slice B m d]] w (ModR w N t L (t, 1, ⟨#[]⟩, [])) := by
  have hb0 := ((Below.refl w.heap.size w).alloc (Nat.le_refl _) (.cells #[.int .i64 k, .string p, .int .i64 x, .int .i64 n, .slice B m d] 58)).alloc (by simp) (.cells #[.int .i64 0, .slice none 0 0, .slice none 0 0] 64)
  obtain ⟨b1, hb1⟩ : ∃ b1, b1 = w.heap.size + 1 := ⟨_, rfl⟩
  have hab := anb_at w k p x n B m d b1 hb1
  have HF := Lib.hid (mod_fin0 hM (show Below w.heap.size w (bxD w k p x n B m d) from hb0) (show w.heap.size ≤ b1 by omega) hab.lt (TrkN.same (hM.keep hb0) (Below.refl _ _)) (chg_set3 (bxD w k p x n B m d) b1 (.int .i64 1) (.slice none 0 0) (.slice none 0 0)) 1)
  have e0 : (k == 0) = false := beq_eq_false_iff_ne.2 (by omega)
  have e1 : (k == 1) = false := beq_eq_false_iff_ne.2 (by omega)
  have e2 : (k == 2) = false := beq_eq_false_iff_ne.2 (by omega)
  have e3 : (k == 3) = false := beq_eq_false_iff_ne.2 (by omega)
  have e4 : (k == 4) = false := beq_eq_false_iff_ne.2 (by omega)
  have e5 : (k == 5) = false := beq_eq_false_iff_ne.2 (by omega)
  have e6 : (k == 6) = false := beq_eq_false_iff_ne.2 (by omega)
  have e7 : (k == 7) = false := beq_eq_false_iff_ne.2 (by omega)
  have HAB := Lib.hid hab
  have HB1 := Lib.hid hb1
  clear hb0 hM hk hab hb1
  go_enter Tryz.func24, Tryz.ntmps24
  go_upto_region 18 with fail
  rw [← HB1.out]
  generalize hw1 : bxD w k p x n B m d = w1 at *
  rw [show (w.alloc (.cells #[.int .i64 k, .string p, .int .i64 x, .int .i64 n, .slice B m d] 58)).alloc (.cells #[.int .i64 0, .slice none 0 0, .slice none 0 0] 64) = w1 from hw1]
  clear hw1
  have hl := HAB.out.lt
  have h0 := HAB.out.c0
  have h1 := HAB.out.c1
  have h2 := HAB.out.c2
  have f0 := HAB.out.f0
  have f1 := HAB.out.f1
  have f2 := HAB.out.f2
  obtain ⟨z0, z1, z2⟩ := set3 HAB.out (.int .i64 1) (.slice none 0 0) (.slice none 0 0)
  go_wp2
  refine bodyPost_ret (v := .agg #[.int .i64 1, .slice none 0 0, .slice none 0 0]) ?_ rfl HF.out
  simp [results, Tryz.results24, go_sem, z0, z1, z2]

/-- a deed of any kind -/
theorem do_any (w : World) (N b0 : Nat) (k : Int) (t : List Th) (L : Nm → Nd) (p : ByteArray) (x n : Int) (m d : Nat) (B : Option Addr) (bs : List Nat) (hM : Mem w N t L) (hb : (L []).b = b0) (hW : Wf t) (hp : p.size < 4294967281) (hN : N ≤ 999999) (hm : bs.length = m) (hml : m ≤ 1000000) (hB : Crc.Bts w B bs) (hx : x ≤ 9223372036854775807) (hn : n ≤ 9223372036854775807) (hl : t.length ≤ 100000) :
    Calls Tryz.prog 24 #[.iface 25 (.pointer (some ⟨b0, 0, none⟩)), .agg #[.int .i64 k, .string p, .int .i64 x, .int .i64 n, .slice B m d]] w (ModR w N t L (doM t k p x n (Crc.str bs))) := by
  unfold doM
  by_cases hk : 0 ≤ k ∧ k ≤ 7
  · rw [if_pos hk]
    obtain ⟨q, rfl⟩ := Int.eq_ofNat_of_zero_le hk.1
    have hq : q ≤ 7 := by omega
    rw [Int.toNat_natCast]
    unfold Tre.doT
    rw [Nat.mod_eq_of_lt (by omega : q < 8)]
    by_cases h0 : q = 0
    · rw [if_pos h0]; exact do_0 w N b0 q t L p x n m d B hM hb hW hp hN (by omega)
    rw [if_neg h0]
    by_cases h1 : q = 1
    · rw [if_pos h1]; exact do_1 w N b0 q t L p x n m d B hM hb hW hp hN (by omega)
    rw [if_neg h1]
    by_cases h2 : q = 2
    · rw [if_pos h2]; exact do_2 w N b0 q t L p x n m d B hM hb hW hp bs hm hml hB (by omega)
    rw [if_neg h2]
    by_cases h3 : q = 3
    · rw [if_pos h3]; exact do_3 w N b0 q t L p x n m d B hM hb hW hp (by omega)
    rw [if_neg h3]
    by_cases h4 : q = 4
    · rw [if_pos h4]; exact do_4 w N b0 q t L p x n m d B hM hb hW hp (by omega)
    rw [if_neg h4]
    by_cases h5 : q = 5
    · rw [if_pos h5]; exact do_5 w N b0 q t L p x n m d B hM hb hW hp (by omega)
    rw [if_neg h5]
    by_cases h6 : q = 6
    · rw [if_pos h6]; exact do_6 w N b0 q t L p x n m d B hM hb hW hp hx hn (by omega)
    rw [if_neg h6]
    exact do_7 w N b0 q t L p x n m d B hM hb hW hp hl (by omega)
  · rw [if_neg hk]
    exact do_none w N b0 k t L p x n m d B hM hk
end Mod
end Go.Proofs.YtkhkcfbacnkcnaaGreatDoor
/- Answers in a row of the call's own, beside a tree; deeds as they lie. -/
namespace Go.Proofs.YtkhkcfbacnkcnaaGreatDoor
open Go.RowKit Go.MapKept
namespace Mod
open Tre (Nm Th doT)
open Trk (Mem Nd Wf Fp Chg TrkN TrkR Gb row_blk row_same)
open Pat (Txs)

/-- an answer's three cells -/
abbrev yc (y : An) : List Value := [.int .i64 y.e, .slice y.a y.d.length y.c, .slice y.g y.n.length y.k]
def ycells (l : List An) : List Value := l.flatMap yc
theorem ycells_app (l m : List An) : ycells (l ++ m) = ycells l ++ ycells m := by
  unfold ycells
  rw [List.flatMap_append]
theorem ycells_len (l : List An) : (ycells l).length = l.length * 3 := by
  induction l with
  | nil => rfl
  | cons f l ih => simp only [ycells, List.flatMap_cons, List.length_append, List.length_cons, List.length_nil] at *; omega
theorem ycells_get {l : List An} : ∀ {j : Nat} (h : j < l.length), (ycells l)[j * 3]? = some (.int .i64 l[j].e) ∧ (ycells l)[j * 3 + 1]? = some (.slice l[j].a l[j].d.length l[j].c) ∧ (ycells l)[j * 3 + 2]? = some (.slice l[j].g l[j].n.length l[j].k) := by
  induction l with
  | nil => intro j h; simp at h
  | cons f l ih =>
    intro j h
    cases j with
    | zero => exact ⟨rfl, rfl, rfl⟩
    | succ j =>
      have := ih (j := j) (by simpa using h)
      have e : (j + 1) * 3 = j * 3 + 1 + 1 + 1 := by omega
      rw [e]
      simpa [ycells] using this
/-- answers, apart from the blocks F -/
structure Anss (w : World) (B : Nat) (v : Value) (ys : List An) (F : Nat → Prop) : Prop where
  row : w.ownsRow B 64 3 v ys.length (ycells ys)
  ok : ∀ y ∈ ys, AnOk w y
  low : ∀ y ∈ ys, ∀ i, Gb y.a i ∨ Gb y.g i → i < w.heap.size ∧ ¬ F i ∧ v.ownBlock ≠ some i
  rowf : ∀ k, v.ownBlock = some k → ¬ F k
theorem AnOk.chg {w w' : World} {F : Nat → Prop} {y : An} (h : AnOk w y) (hc : Chg F w w') (hg : ∀ i, Gb y.a i ∨ Gb y.g i → ¬ F i) : AnOk w' y :=
  ⟨Trk.bts_chg h.bts hc (fun ad e _ => hg _ (.inl ⟨ad, e, rfl⟩)), Trk.txs_chg h.txs hc (fun ad e _ => hg _ (.inr ⟨ad, e, rfl⟩))⟩
/-- where blocks F are changed, and new ones come to them -/
theorem Anss.step {w w' : World} {B : Nat} {v : Value} {ys : List An} {F F' : Nat → Prop} (h : Anss w B v ys F) (hc : Chg F w w') (hF : ∀ i, F' i → F i ∨ w.heap.size ≤ i) : Anss w' B v ys F' :=
  ⟨Trk.own_chg h.row hc (fun g hg => h.rowf g hg), fun y hy => (h.ok y hy).chg hc (fun i hi => (h.low y hy i hi).2.1), fun y hy i hi => by
    obtain ⟨h1, h2, h3⟩ := h.low y hy i hi
    exact ⟨Nat.lt_of_lt_of_le h1 hc.size, fun hf => (hF i hf).elim h2 (fun e => by omega), h3⟩, fun k hk hf => (hF k hf).elim (h.rowf k hk) (fun e => by have := (row_blk h.row hk).2; omega)⟩
theorem Anss.keep {w w' : World} {B : Nat} {v : Value} {ys : List An} {F : Nat → Prop} (h : Anss w B v ys F) (hb : Below w.heap.size w w') : Anss w' B v ys F :=
  ⟨Trk.own_chg h.row (Chg.of_below (F := fun _ => False) hb) (fun _ _ h => h), fun y hy => (h.ok y hy).keep hb, fun y hy i hi => by
    obtain ⟨h1, h2, h3⟩ := h.low y hy i hi
    exact ⟨Nat.lt_of_lt_of_le h1 hb.size, h2, h3⟩, h.rowf⟩
theorem ans_info : ∃ i0, Tryz.prog.info? 64 = some i0 ∧ i0.zero = some (.agg #[.int .i64 0, .slice none 0 0, .slice none 0 0]) ∧ i0.size = 3 ∧ i0.bytes = 56 := by
  have hinf : (Tryz.prog.info? 64).map (fun i => (i.zero, i.size, i.bytes)) = some (some (.agg #[.int .i64 0, .slice none 0 0, .slice none 0 0]), 3, 56) := by kernel_rfl
  obtain ⟨i, hi, hzz⟩ := Option.map_eq_some_iff.1 hinf
  simp only [Prod.mk.injEq] at hzz
  exact ⟨i, hi, hzz.1, hzz.2.1, hzz.2.2⟩
/-- an answer more -/
theorem Anss.more {w : World} {B : Nat} {v : Value} {ys : List An} {F : Nat → Prop} {y : An} (h : Anss w B v ys F) (hy : AnOk w y) (hyl : ∀ i, Gb y.a i ∨ Gb y.g i → i < w.heap.size ∧ ¬ F i ∧ v.ownBlock ≠ some i) (hF : ∀ i, F i → i < w.heap.size) (hB : B ≤ w.heap.size) (hn : ys.length ≤ 1000000) :
    ∃ A c w2, (Builtin.append_ #[55, 55] 55 #[v, .slice (some ⟨w.heap.size, 0, none⟩) 1 1]).run Tryz.prog (w.alloc (.cells #[.int .i64 y.e, .slice y.a y.d.length y.c, .slice y.g y.n.length y.k] 64)) = .ok (.slice A (ys.length + 1) c) w2 ∧ Anss w2 B (.slice A (ys.length + 1) c) (ys ++ [y]) F ∧ Chg (fun i => v.ownBlock = some i) w w2 := by
  have hba : Below w.heap.size w (w.alloc (.cells #[.int .i64 y.e, .slice y.a y.d.length y.c, .slice y.g y.n.length y.k] 64)) := (Below.refl _ w).alloc (Nat.le_refl _) _
  have ha := h.keep hba
  obtain ⟨i0, hi0, hz0, hz1, hz2⟩ := ans_info
  obtain ⟨v2, w2, hrun, ho, hg, _, hat⟩ := run_append_own_at (P := Tryz.prog) (w.alloc (.cells #[.int .i64 y.e, .slice y.a y.d.length y.c, .slice y.g y.n.length y.k] 64)) B 55 55 64 i0 _ 3 56 Tryz.underlying55 hi0 hz0 hz1 hz2 rfl (by decide) v ys.length (ycells ys) ha.row ⟨w.heap.size, 0, none⟩ 1 1 (yc y) rfl (fun j x hj => by
    match j, hj with
    | 0, hj => simp only [yc, List.getElem?_cons_zero, Option.some.injEq] at hj; subst hj; rw [Go.WideShapes.add_plain, Crc.alloc_cell]; rfl
    | 1, hj => simp only [yc, List.getElem?_cons_succ, List.getElem?_cons_zero, Option.some.injEq] at hj; subst hj; rw [Go.WideShapes.add_plain, Crc.alloc_cell]; rfl
    | 2, hj => simp only [yc, List.getElem?_cons_succ, List.getElem?_cons_zero, Option.some.injEq] at hj; subst hj; rw [Go.WideShapes.add_plain, Crc.alloc_cell]; rfl
    | j + 3, hj => simp [yc] at hj) (by simp [yc, Value.oneCell']) (by unfold maxLen; omega) (by omega) (Nat.le_trans hB hba.size)
  have hch : Chg (fun i => v.ownBlock = some i) w w2 := Chg.after hba ⟨hg.os, hg.tape, hg.output, hg.size, fun k hk hne => hg.block k hk (fun e => hne e.symm)⟩
  have hv2 : v2.ownBlock = v.ownBlock ∨ ∃ k, v2.ownBlock = some k ∧ w.heap.size ≤ k := hat.imp id (fun e => ⟨_, e, by rw [World.size_alloc]; omega⟩)
  have hall : ∀ z ∈ ys ++ [y], AnOk w z ∧ ∀ i, Gb z.a i ∨ Gb z.g i → i < w.heap.size ∧ ¬ F i ∧ v.ownBlock ≠ some i := fun z hz => by
    rcases List.mem_append.1 hz with h1 | h1
    · exact ⟨h.ok z h1, h.low z h1⟩
    · obtain rfl : z = y := by simpa using h1
      exact ⟨hy, hyl⟩
  have hrow : w2.ownsRow B 64 3 v2 (ys.length + 1) (ycells (ys ++ [y])) := by
    rw [ycells_app]
    simpa [ycells] using ho
  obtain ⟨A, c, rfl⟩ : ∃ A c, v2 = .slice A (ys.length + 1) c := by
    rcases hrow.2 with ⟨_, h0⟩ | ⟨g, cap, cur, e, _⟩
    · omega
    · exact ⟨_, _, e⟩
  refine ⟨A, c, w2, hrun, ⟨by rw [List.length_append, List.length_singleton]; exact hrow, fun z hz => ?_, fun z hz i hi => ?_, fun k hk hf => ?_⟩, hch⟩
  · obtain ⟨h1, h2⟩ := hall z hz
    exact h1.chg hch (fun i hi e => (h2 i hi).2.2 e)
  · obtain ⟨_, h2⟩ := hall z hz
    obtain ⟨g1, g2, g3⟩ := h2 i hi
    refine ⟨Nat.lt_of_lt_of_le g1 hch.size, g2, fun e => ?_⟩
    rcases hv2 with h4 | ⟨k, h4, h5⟩
    · exact g3 (h4.symm.trans e)
    · rw [h4] at e
      injection e with e
      omega
  · rcases hv2 with h4 | ⟨k', h4, h5⟩
    · exact h.rowf k (h4.symm.trans hk) hf
    · rw [h4] at hk
      injection hk with hk
      have := hF k hf
      omega
theorem anss_nil (w : World) (B : Nat) (F : Nat → Prop) : Anss w B (.slice none 0 0) [] F := ⟨World.ownsRow_nil _ _ _ _, fun y hy => by simp at hy, fun y hy => by simp at hy, fun k hk => by cases hk⟩
/-- an answer of the row -/
theorem Anss.at {w : World} {B n c : Nat} {A : Option Addr} {ys : List An} {F : Nat → Prop} (h : Anss w B (.slice A n c) ys F) (hn : ys.length = n) {j : Nat} (hj : j < ys.length) : ∃ g, A = some ⟨g, 0, none⟩ ∧ g < w.heap.size ∧ w.cell? ⟨g, j * 3, none⟩ = some (.int .i64 ys[j].e) ∧ w.cell? ⟨g, j * 3 + 1, none⟩ = some (.slice ys[j].a ys[j].d.length ys[j].c) ∧ w.cell? ⟨g, j * 3 + 2, none⟩ = some (.slice ys[j].g ys[j].n.length ys[j].k) := by
  subst hn
  have hr := h.row
  obtain ⟨g0, g1, g2⟩ := ycells_get hj
  rcases hr.2 with ⟨_, h0⟩ | ⟨g, cap, cur, e, _⟩
  · omega
  · injection e with e1 e2 e3
    subst e1 e3
    exact ⟨g, rfl, (row_blk hr (k := g) rfl).2, (hr.cellAt (j * 3) (by omega)).trans g0, (hr.cellAt (j * 3 + 1) (by omega)).trans g1, (hr.cellAt (j * 3 + 2) (by omega)).trans g2⟩

/-- a deed -/
structure Dd where
  k : Int
  p : ByteArray
  x : Int
  n : Int
  a : Option Addr
  c : Nat
  b : List Nat
/-- deeds as they lie -/
structure Dds (w : World) (A : Option Addr) (l : List Dd) : Prop where
  len : l.length ≤ 9223372036854775807
  ok : ∀ g ∈ l, g.p.size ≤ 9223372036854775807 ∧ g.b.length ≤ g.c ∧ Crc.Bts w g.a g.b ∧ (g.a = none → g.c = 0) ∧ g.x ≤ 9223372036854775807 ∧ g.n ≤ 9223372036854775807
  at' : ∀ j (h : j < l.length), ∃ b o, A = some ⟨b, o, none⟩ ∧ b < w.heap.size ∧ w.cell? ⟨b, o + j * 5, none⟩ = some (.int .i64 l[j].k) ∧ w.cell? ⟨b, o + j * 5 + 1, none⟩ = some (.string l[j].p) ∧ w.cell? ⟨b, o + j * 5 + 2, none⟩ = some (.int .i64 l[j].x) ∧ w.cell? ⟨b, o + j * 5 + 3, none⟩ = some (.int .i64 l[j].n) ∧ w.cell? ⟨b, o + j * 5 + 4, none⟩ = some (.slice l[j].a l[j].b.length l[j].c)
/-- block i is none of theirs -/
def DAp (i : Nat) (A : Option Addr) (l : List Dd) : Prop := (∀ a, A = some a → l ≠ [] → a.block ≠ i) ∧ ∀ g ∈ l, ∀ a, g.a = some a → g.b ≠ [] → a.block ≠ i
theorem Dds.chg {w w' : World} {F : Nat → Prop} {A : Option Addr} {l : List Dd} (h : Dds w A l) (hc : Chg F w w') (ha : ∀ i, F i → DAp i A l) : Dds w' A l :=
  ⟨h.len, fun g hg => by
    obtain ⟨h1, h2, h3, h4⟩ := h.ok g hg
    exact ⟨h1, h2, Trk.bts_chg h3 hc (fun ad e h0 hf => (ha _ hf).2 g hg ad e h0 rfl), h4⟩, fun j hj => by
    obtain ⟨b, o, e, hlt, k0, k1, k2, k3, k4⟩ := h.at' j hj
    have hx := hc.block b hlt (fun hf => (ha _ hf).1 _ e (fun h0 => by rw [h0] at hj; simp at hj) rfl)
    exact ⟨b, o, e, Nat.lt_of_lt_of_le hlt hc.size, (World.cell?_of_block (w := w) (a := ⟨b, o + j * 5, none⟩) hx).trans k0, (World.cell?_of_block (w := w) (a := ⟨b, o + j * 5 + 1, none⟩) hx).trans k1, (World.cell?_of_block (w := w) (a := ⟨b, o + j * 5 + 2, none⟩) hx).trans k2, (World.cell?_of_block (w := w) (a := ⟨b, o + j * 5 + 3, none⟩) hx).trans k3, (World.cell?_of_block (w := w) (a := ⟨b, o + j * 5 + 4, none⟩) hx).trans k4⟩⟩
theorem Dds.keep {w w' : World} {A : Option Addr} {l : List Dd} (h : Dds w A l) (hb : Below w.heap.size w w') : Dds w' A l := h.chg (Chg.of_below (F := fun _ => False) hb) (fun _ h => h.elim)
theorem Dds.apart {w : World} {A : Option Addr} {l : List Dd} (h : Dds w A l) {i : Nat} (hi : w.heap.size ≤ i) : DAp i A l := by
  refine ⟨fun a e hl => ?_, fun g hg a e hn => ?_⟩
  · obtain ⟨b', o', e', hlt, _⟩ := h.at' 0 (List.length_pos_iff.2 hl)
    rw [e] at e'
    injection e' with e'
    subst e'
    simp only
    omega
  · obtain ⟨b', o', e', hlt, _⟩ := (h.ok g hg).2.2.1.at' 0 (List.length_pos_iff.2 hn)
    rw [e] at e'
    injection e' with e'
    subst e'
    simp only
    omega

/-- what a deed makes of a tree, and its answer -/
def rM (t : List Th) (g : Dd) : List Th × Int × ByteArray × List ByteArray := doM t g.k g.p g.x g.n (Crc.str g.b)
/-- what deeds make of a tree -/
def tM (t : List Th) (l : List Dd) : List Th := l.foldl (fun t g => (rM t g).1) t
theorem tM_take (t : List Th) (l : List Dd) {j : Nat} (hj : j < l.length) : tM t (l.take (j + 1)) = (rM (tM t (l.take j)) l[j]).1 := by
  unfold tM
  rw [List.take_succ_eq_append_getElem hj, List.foldl_append]
  rfl
/-- an answer is as is told -/
def Mt (y : An) (r : List Th × Int × ByteArray × List ByteArray) : Prop := y.e = r.2.1 ∧ Crc.str y.d = r.2.2.1 ∧ y.n = r.2.2.2
theorem wf_doM {t : List Th} (hW : Wf t) (k : Int) (p : ByteArray) (x n : Int) {bs : List Nat} (hb : Crc.Byt bs) : Wf (doM t k p x n (Crc.str bs)).1 := by
  unfold doM
  split
  · exact hW.doT _ p x n hb
  · exact hW
theorem doM_len (t : List Th) (k : Int) (p : ByteArray) (x n : Int) (v : ByteArray) : (doM t k p x n v).1.length ≤ t.length + 1 := by
  unfold doM
  split
  · exact Trk.doT_len t _ p x n v
  · exact Nat.le_succ _
end Mod
end Go.Proofs.YtkhkcfbacnkcnaaGreatDoor
/- The program's model: deeds, one behind the other. -/
namespace Go.Proofs.YtkhkcfbacnkcnaaGreatDoor
open Go.RowKit Go.MapKept
namespace Mod
open Tre (Nm Th doT)
open Trk (Mem Nd Wf Fp Chg TrkN TrkR Gb row_blk row_same)
open Pat (Txs)

/-- deeds that are little -/
def Fit (l : List Dd) : Prop := ∀ g ∈ l, g.p.size < 4294967281 ∧ g.b.length ≤ 1000000
/-- answers as are told, of the first j deeds -/
def Mts (t : List Th) (l : List Dd) (ys : List An) : Prop := ∀ j (h : j < l.length) (h' : j < ys.length), Mt ys[j] (rM (tM t (l.take j)) l[j])
/-- what deeds leave -/
def RunR (w : World) (N : Nat) (t : List Th) (L : Nm → Nd) (l : List Dd) (n : Nat) (e : Ending) (w' : World) : Prop :=
  ∃ (G : Option Addr) (gc : Nat) (ys : List An), e = .returned (.slice G n gc) ∧ ys.length = n ∧ Mts t l ys ∧ Chg (Fp t L) w w' ∧ ∃ L', Mem w' (N + n) (tM t l) L' ∧ (L' []).b = (L []).b ∧ (∀ i, Fp (tM t l) L' i → Fp t L i ∨ w.heap.size ≤ i) ∧ Anss w' w.heap.size (.slice G n gc) ys (Fp (tM t l) L')
theorem wf_tM {t : List Th} (hW : Wf t) {l : List Dd} (hb : ∀ g ∈ l, Crc.Byt g.b) : Wf (tM t l) := by
  induction l generalizing t with
  | nil => exact hW
  | cons g l ih => exact ih (wf_doM hW g.k g.p g.x g.n (hb g (by simp))) (fun g' hg => hb g' (by simp [hg]))
theorem tM_len (t : List Th) (l : List Dd) : (tM t l).length ≤ t.length + l.length := by
  induction l generalizing t with
  | nil => exact Nat.le_refl _
  | cons g l ih =>
    have h1 := ih (rM t g).1
    have h2 := doM_len t g.k g.p g.x g.n (Crc.str g.b)
    have h3 : tM t (g :: l) = tM (rM t g).1 l := rfl
    rw [h3, List.length_cons]
    unfold rM at *
    omega
theorem mts_more {t : List Th} {l : List Dd} {ys : List An} {y : An} {j : Nat} (h : Mts t (l.take j) ys) (hys : ys.length = j) (hj : j < l.length) (hm : Mt y (rM (tM t (l.take j)) l[j])) : Mts t (l.take (j + 1)) (ys ++ [y]) := fun i hi hi' => by
  have hi2 : i < j + 1 := by rw [List.length_append, List.length_singleton] at hi'; omega
  rw [List.take_take, Nat.min_eq_left (by omega), List.getElem_take]
  by_cases he : i = j
  · subst he
    rw [List.getElem_append_right (by omega)]
    simp only [hys, Nat.sub_self, List.getElem_cons_zero]
    exact hm
  · rw [List.getElem_append_left (by omega)]
    have := h i (by rw [List.length_take]; omega) (by omega)
    rw [List.take_take, Nat.min_eq_left (by omega), List.getElem_take] at this
    exact this

set_option maxRecDepth 100000 in
set_option maxHeartbeats 4000000 in
theorem run_any (w : World) (N b0 n c : Nat) (t : List Th) (L : Nm → Nd) (A : Option Addr) (l : List Dd) (hM : Mem w N t L) (hb : (L []).b = b0) (hW : Wf t) (hD : Dds w A l) (hn : l.length = n) (hap : ∀ i, Fp t L i → DAp i A l) (hf : Fit l) (hl : t.length ≤ 50000) (hnl : n ≤ 40000) (hN : N ≤ 900000) :
    Calls Tryz.prog 26 #[.iface 25 (.pointer (some ⟨b0, 0, none⟩)), .slice A n c] w (RunR w N t L l n) := by
  obtain ⟨i0, hi0, hz0, hz1, hz2⟩ := ans_info
  have hmk := run_make (P := Tryz.prog) w 55 64 i0 _ Tryz.underlying55 hi0 hz0 .i64 .i64 0 (n : Int) (by omega) (by omega) (by rw [hz2]; omega) (by omega)
  simp only [Int.toNat_natCast, Int.toNat_zero, hz1] at hmk
  have hown : (w.alloc (.cells (madeCells (Value.agg #[.int .i64 0, .slice none 0 0, .slice none 0 0]).cells (n * 3)) 64)).ownsRow w.heap.size 64 3 (.slice (some ⟨w.heap.size, 0, none⟩) 0 n) 0 [] := World.ownsRow_made w _ n (Nat.le_refl _) (by unfold maxLen; omega) (size_madeCells _ _)
  have hba := (Below.refl w.heap.size w).alloc (Nat.le_refl _) (.cells (madeCells (Value.agg #[.int .i64 0, .slice none 0 0, .slice none 0 0]).cells (n * 3)) 64)
  have hS0 : Chg (Fp t L) w (w.alloc (.cells (madeCells (Value.agg #[.int .i64 0, .slice none 0 0, .slice none 0 0]).cells (n * 3)) 64)) ∧ Mem (w.alloc (.cells (madeCells (Value.agg #[.int .i64 0, .slice none 0 0, .slice none 0 0]).cells (n * 3)) 64)) (N + 0) t L ∧ Anss (w.alloc (.cells (madeCells (Value.agg #[.int .i64 0, .slice none 0 0, .slice none 0 0]).cells (n * 3)) 64)) w.heap.size (.slice (some ⟨w.heap.size, 0, none⟩) 0 n) [] (Fp t L) :=
    ⟨Chg.of_below hba, hM.keep hba, ⟨hown, fun y hy => by simp at hy, fun y hy => by simp at hy, fun k hk hf => by
      simp only [Value.ownBlock, Option.some.injEq] at hk
      have := hM.lt hf
      omega⟩⟩
  have HMK := Lib.hid hmk
  have HS0 := Lib.hid hS0
  have HD := Lib.hid hD
  have HLN := Lib.hid hn
  have HAP := Lib.hid hap
  have HF := Lib.hid hf
  have HBY := Lib.hid (show ∀ g ∈ l, Crc.Byt g.b from fun g hg => (hD.ok g hg).2.2.1.byt)
  clear hown hba hS0 hD hn hap hf hi0 hz0 hz1 hz2
  generalize w.alloc (.cells (madeCells (Value.agg #[.int .i64 0, .slice none 0 0, .slice none 0 0]).cells (n * 3)) 64) = wm at *
  go_enter Tryz.func26, Tryz.ntmps26
  go_wp2_with fail
  go_loopw [5, 13] (fun v ix wr => ∃ (j : Nat) (L' : Nm → Nd) (G : Option Addr) (gc : Nat) (ys : List An), j ≤ n ∧ ix = .int .i64 (j : Int) ∧ v = .slice G j gc ∧ ys.length = j ∧ Mts t (l.take j) ys ∧ Chg (Fp t L) w wr ∧ Mem wr (N + j) (tM t (l.take j)) L' ∧ (L' []).b = b0 ∧ (∀ i, Fp (tM t (l.take j)) L' i → Fp t L i ∨ w.heap.size ≤ i) ∧ Anss wr w.heap.size (.slice G j gc) ys (Fp (tM t (l.take j)) L')) (fun _ ix _ => n - (intOf ix).toNat)
  case atStart => exact ⟨0, L, _, n, [], Nat.zero_le _, rfl, rfl, rfl, fun i hi => by simp at hi, HS0.out.1, by rw [List.take_zero]; exact HS0.out.2.1, hb, fun i hi => by rw [List.take_zero] at hi; exact .inl hi, by rw [List.take_zero]; exact HS0.out.2.2⟩
  case round =>
    obtain ⟨j, L', G, gc, ys, hj, rfl, rfl, hys, hmt, hch, hmem, hroot, hfp, hans⟩ := hrel
    have HYS := Lib.hid hys
    have HMT := Lib.hid hmt
    have HCH := Lib.hid hch
    have HMEM := Lib.hid hmem
    have HROOT := Lib.hid hroot
    have HFP := Lib.hid hfp
    have HANS := Lib.hid hans
    have HDD := Lib.hid (HD.out.chg hch HAP.out)
    clear hys hmt hch hmem hroot hfp hans
    by_cases hlt : j < n
    · have hlti : j < l.length := by rw [HLN.out]; exact hlt
      obtain ⟨bi, oi, rfl, hbli, k0, k1, k2, k3, k4⟩ := HDD.out.at' j hlti
      have hok := HDD.out.ok _ (List.getElem_mem hlti)
      have hfit := HF.out _ (List.getElem_mem hlti)
      have HTM := Lib.hid (tM_take t l hlti)
      have HMORE := Lib.hid (fun y hy => mts_more (y := y) HMT.out HYS.out hlti hy)
      have hlen := tM_len t (l.take j)
      have hwf : Wf (tM t (l.take j)) := wf_tM hW (fun g hg => HBY.out g (List.mem_of_mem_take hg))
      have HWF := Lib.hid hwf
      have HLEN := Lib.hid (show (tM t (l.take j)).length ≤ 100000 by rw [List.length_take] at hlen; omega)
      clear hlen hwf
      generalize tM t (l.take j) = t1 at *
      generalize l[j] = q at *
      obtain ⟨k, p, x, nn, ga, gc0, bs⟩ := q
      simp only at k0 k1 k2 k3 k4
      obtain ⟨m, hm⟩ : ∃ m, m = bs.length := ⟨_, rfl⟩
      rw [← hm] at k4
      have HM2 := Lib.hid hm
      have HOK := Lib.hid hok
      have HFIT := Lib.hid (show p.size < 4294967281 ∧ m ≤ 1000000 from ⟨hfit.1, by rw [hm]; exact hfit.2⟩)
      have hj0 : (j : Int) < (n : Int) := by omega
      have hm0 : (0 : Int) ≤ (j : Int) := by omega
      clear hm hok hfit hlti
      have hbx := (Below.refl wr.heap.size wr).alloc (Nat.le_refl _) (.cells #[.int .i64 k, .string p, .int .i64 x, .int .i64 nn, .slice ga m gc0] 58)
      have hdo := do_any (wr.alloc (.cells #[.int .i64 k, .string p, .int .i64 x, .int .i64 nn, .slice ga m gc0] 58)) (N + j) b0 k t1 L' p x nn m gc0 ga bs (HMEM.out.keep hbx) HROOT.out HWF.out HFIT.out.1 (by omega) HM2.out.symm HFIT.out.2 (HOK.out.2.2.1.keep hbx) HOK.out.2.2.2.2.1 HOK.out.2.2.2.2.2 HLEN.out
      have HRM := Lib.hid (show rM t1 ⟨k, p, x, nn, ga, gc0, bs⟩ = doM t1 k p x nn (Crc.str bs) from rfl)
      rw [← HRM.out] at hdo
      have HDO := Lib.hid hdo
      have HBX := Lib.hid hbx
      clear hdo hbx
      generalize rM t1 ⟨k, p, x, nn, ga, gc0, bs⟩ = r at *
      go_wp2_with fail
      refine HDO.out.mono ?_
      rintro e w2 ⟨y, rfl, h1, h2, h3, hyo, hch2, L2, hmem2, hroot2, hfp2, hgy⟩
      have hbs := HBX.out.size
      have hanx := HANS.out.keep HBX.out
      have hfplt : ∀ i, Fp t1 L' i → i < wr.heap.size := fun i hi => HMEM.out.lt hi
      have hans2 : Anss w2 w.heap.size (.slice G j gc) ys (Fp r.1 L2) := hanx.step hch2 hfp2
      have hrb : ∀ k, (Value.slice G j gc).ownBlock = some k → k < wr.heap.size := fun k hk => (row_blk HANS.out.row hk).2
      have hyl : ∀ i, Gb y.a i ∨ Gb y.g i → i < w2.heap.size ∧ ¬ Fp r.1 L2 i ∧ (Value.slice G j gc).ownBlock ≠ some i := fun i hi => by
        obtain ⟨q1, q2, q3⟩ := hgy i hi
        exact ⟨q2, q3, fun e => by have := hrb i e; omega⟩
      have hchw : Chg (Fp t L) w w2 := HCH.out.trans (Chg.after HBX.out hch2) HFP.out
      obtain ⟨A3, c3, w3, hrun, hans3, hch3⟩ := hans2.more hyo hyl (fun i hi => hmem2.lt hi) hchw.size (by rw [HYS.out]; omega)
      rw [HYS.out] at hrun hans3
      have HRUN := Lib.hid hrun
      have HANS3 := Lib.hid hans3
      have hnf : ∀ i, Fp r.1 L2 i → ¬ (Value.slice G j gc).ownBlock = some i := fun i hi e => hans2.rowf i e hi
      have HMEM3 := Lib.hid (hmem2.chg hch3 hnf)
      have HROOT3 := Lib.hid (show (L2 []).b = b0 from hroot2.trans HROOT.out)
      have HFP3 := Lib.hid (show ∀ i, Fp r.1 L2 i → Fp t L i ∨ w.heap.size ≤ i from fun i hi => by
        rcases hfp2 i hi with h | h
        · exact HFP.out i h
        · have := HCH.out.size
          exact .inr (by omega))
      have HCH3 := Lib.hid (show Chg (Fp t L) w w3 from hchw.trans hch3 (fun i e => .inr (row_blk HANS.out.row e).1))
      have HY := Lib.hid (HMORE.out y ⟨h1, h2, h3⟩)
      have HYL := Lib.hid (show (ys ++ [y]).length = j + 1 by rw [List.length_append, HYS.out]; rfl)
      clear hbs hanx hfplt hans2 hrb hyl hchw hrun hans3 hnf h1 h2 h3 hyo hch2 hmem2 hroot2 hfp2 hgy hch3 k0 k1 k2 k3 k4
      generalize ys ++ [y] = ys2 at *
      obtain ⟨ye, ya, yc0, yd, yg, yk, yn⟩ := y
      unfold An.val at *
      simp only at HRUN ⊢
      generalize yd.length = dl at *
      generalize yn.length = nl at *
      go_wp2_with (at_builtin; refine Pat.wpList_append_run rfl (.tmp 17) (.tmp 21) 55 rfl _ _ _ rfl rfl HRUN.out ?_)
      exact ⟨⟨j + 1, L2, A3, c3, ys2, by omega, by go_num, rfl, HYL.out, HY.out, HCH3.out, by rw [HTM.out]; exact HMEM3.out, HROOT3.out, by rw [HTM.out]; exact HFP3.out, by rw [HTM.out]; exact HANS3.out⟩, by simp [intOf]; omega⟩
    · obtain rfl : j = n := by omega
      have HT : Hid (l.take j = l) := Lib.hid (List.take_of_length_le (by have := HLN.out; omega))
      rw [HT.out] at HMT HMEM HFP HANS
      have HR := Lib.hid (show RunR w N t L l j (.returned (.slice G j gc)) wr from ⟨G, gc, ys, rfl, HYS.out, HMT.out, HCH.out, L', HMEM.out, by rw [HROOT.out, hb], HFP.out, HANS.out⟩)
      go_wp2
      go_ret
      exact HR.out
end Mod
end Go.Proofs.YtkhkcfbacnkcnaaGreatDoor
/- Law 14's example. -/
namespace Go.Proofs.YtkhkcfbacnkcnaaGreatDoor
open Go.RowKit Go.MapKept
namespace Mod
open Tre (Nm Th doT)
open Trk (Mem Nd Wf Fp Chg TrkN TrkR Gb row_blk row_same)
open Pat (Txs)

def d0 : Dd := ⟨0, ⟨#[47, 97]⟩, 0, 0, none, 0, []⟩
def d1 : Dd := ⟨6, ⟨#[47, 97]⟩, 0, 5, none, 0, []⟩
def d2 : Dd := ⟨7, ⟨#[47]⟩, 0, 0, none, 0, []⟩
def tA : List Th := [([⟨#[97]⟩], false, ByteArray.empty)]
theorem r0 : rM [] d0 = (tA, 0, ⟨#[]⟩, []) := by kernel_rfl
theorem r1 : rM tA d1 = (tA, 0, ⟨#[]⟩, []) := by kernel_rfl
theorem r2 : rM tA d2 = (tA, 0, ⟨#[]⟩, [⟨#[97]⟩]) := by kernel_rfl
theorem mts3 {ys : List An} (h : Mts [] [d0, d1, d2] ys) (hl : ys.length = 3) : ∃ y0 y1 y2, ys = [y0, y1, y2] ∧ y0.e = 0 ∧ y1.e = 0 ∧ y1.d.length = 0 ∧ y2.e = 0 ∧ y2.n = [⟨#[97]⟩] := by
  match ys, hl with
  | [y0, y1, y2], _ =>
    have h0 : Mt y0 (rM [] d0) := h 0 (by simp) (by simp)
    have h1 : Mt y1 (rM (tM [] [d0]) d1) := h 1 (by simp) (by simp)
    have h2 : Mt y2 (rM (tM [] [d0, d1]) d2) := h 2 (by simp) (by simp)
    have e1 : tM [] [d0] = tA := by show (rM [] d0).1 = tA; rw [r0]
    have e2 : tM [] [d0, d1] = tA := by show (rM (rM [] d0).1 d1).1 = tA; rw [r0]; show (rM tA d1).1 = tA; rw [r1]
    rw [r0] at h0
    rw [e1, r1] at h1
    rw [e2, r2] at h2
    refine ⟨y0, y1, y2, rfl, h0.1, h1.1, ?_, h2.1, h2.2.2⟩
    have := congrArg ByteArray.size h1.2.1
    rw [Crc.str_size] at this
    exact this

theorem dds3 (w : World) : Dds (w.alloc (.cells #[.int .i64 0, .string ⟨#[47, 97]⟩, .int .i64 0, .int .i64 0, .slice none 0 0, .int .i64 6, .string ⟨#[47, 97]⟩, .int .i64 0, .int .i64 5, .slice none 0 0, .int .i64 7, .string ⟨#[47]⟩, .int .i64 0, .int .i64 0, .slice none 0 0] 58)) (some ⟨w.heap.size, 0, none⟩) [d0, d1, d2] := by
  have bn : ∀ W : World, Crc.Bts W none [] := fun W => ⟨fun b hb => by simp at hb, by simp, fun j hj => by simp at hj⟩
  refine ⟨by simp, fun g hg => ?_, fun j hj => ⟨w.heap.size, 0, rfl, by simp, ?_⟩⟩
  · simp only [List.mem_cons, List.not_mem_nil, or_false] at hg
    rcases hg with rfl | rfl | rfl
    · exact ⟨by decide, by decide, bn _, fun _ => rfl, by decide, by decide⟩
    · exact ⟨by decide, by decide, bn _, fun _ => rfl, by decide, by decide⟩
    · exact ⟨by decide, by decide, bn _, fun _ => rfl, by decide, by decide⟩
  · have hj3 : j < 3 := hj
    match j, hj3 with
    | 0, _ => exact ⟨Crc.alloc_cell w _ _ 0, Crc.alloc_cell w _ _ 1, Crc.alloc_cell w _ _ 2, Crc.alloc_cell w _ _ 3, Crc.alloc_cell w _ _ 4⟩
    | 1, _ => exact ⟨Crc.alloc_cell w _ _ 5, Crc.alloc_cell w _ _ 6, Crc.alloc_cell w _ _ 7, Crc.alloc_cell w _ _ 8, Crc.alloc_cell w _ _ 9⟩
    | 2, _ => exact ⟨Crc.alloc_cell w _ _ 10, Crc.alloc_cell w _ _ 11, Crc.alloc_cell w _ _ 12, Crc.alloc_cell w _ _ 13, Crc.alloc_cell w _ _ 14⟩

set_option maxRecDepth 100000 in
set_option maxHeartbeats 4000000 in
theorem lives_any (w : World) : Calls Tryz.prog 21 #[] w fun e w' => e = .returned (.bool true) ∧ Below w.heap.size w w' := by
  have H0 := Lib.hid (Trk.new_any w)
  have H1 := Lib.hid Trk.lives_any
  go_enter Tryz.func21, Tryz.ntmps21
  go_wp2_with fail
  refine H0.out.mono ?_
  rintro e wa ⟨rfl, hm, hb, _⟩
  have HM := Lib.hid hm
  have HB := Lib.hid hb
  clear hm hb H0
  generalize hbb : w.heap.size = b at *
  have HBB := Lib.hid hbb
  clear hbb
  go_wp2_with fail
  refine (H1.out _).mono ?_
  rintro e wb ⟨rfl, hb⟩
  have HB2 := Lib.hid (HB.out.trans (hb.mono (by have := HB.out.size; omega)))
  have HM2 := Lib.hid (HM.out.keep hb)
  clear hb
  go_wp2_with fail
  have hfb : ∀ i, Fp [] (Trk.L0 b) i → i = b := fun i hi => by
    obtain ⟨p, v, _, hi⟩ := hi
    simpa [Trk.own, Trk.L0] using hi
  have hba := (Below.refl wb.heap.size wb).alloc (Nat.le_refl _) (.cells #[.int .i64 0, .string ⟨#[47, 97]⟩, .int .i64 0, .int .i64 0, .slice none 0 0, .int .i64 6, .string ⟨#[47, 97]⟩, .int .i64 0, .int .i64 5, .slice none 0 0, .int .i64 7, .string ⟨#[47]⟩, .int .i64 0, .int .i64 0, .slice none 0 0] 58)
  have hsz : b ≤ wb.heap.size := by have := HB2.out.size; have := HBB.out; omega
  have hlt : b < wb.heap.size := HM2.out.lt (i := b) ⟨[], _, Trk.T_root [], by simp [Trk.own, Trk.L0]⟩
  have HRUN := Lib.hid (run_any (wb.alloc (.cells #[.int .i64 0, .string ⟨#[47, 97]⟩, .int .i64 0, .int .i64 0, .slice none 0 0, .int .i64 6, .string ⟨#[47, 97]⟩, .int .i64 0, .int .i64 5, .slice none 0 0, .int .i64 7, .string ⟨#[47]⟩, .int .i64 0, .int .i64 0, .slice none 0 0] 58)) 0 b 3 3 [] (Trk.L0 b) (some ⟨wb.heap.size, 0, none⟩) [d0, d1, d2] (HM2.out.keep hba) rfl Trk.wf_nil (dds3 wb) rfl (fun i hi => by
    obtain rfl := hfb i hi
    refine ⟨fun a e _ => ?_, fun g hg a e => ?_⟩
    · injection e with e
      subst e
      simp only
      omega
    · simp only [List.mem_cons, List.not_mem_nil, or_false] at hg
      rcases hg with rfl | rfl | rfl <;> cases e) (fun g hg => by
    simp only [List.mem_cons, List.not_mem_nil, or_false] at hg
    rcases hg with rfl | rfl | rfl <;> exact ⟨by decide, by decide⟩) (by simp) (by omega) (by omega))
  have HB3 := Lib.hid (HB2.out.trans (hba.mono hsz))
  have HSC := Lib.hid (show b ≤ (wb.alloc (.cells #[.int .i64 0, .string ⟨#[47, 97]⟩, .int .i64 0, .int .i64 0, .slice none 0 0, .int .i64 6, .string ⟨#[47, 97]⟩, .int .i64 0, .int .i64 5, .slice none 0 0, .int .i64 7, .string ⟨#[47]⟩, .int .i64 0, .int .i64 0, .slice none 0 0] 58)).heap.size from Nat.le_trans hsz hba.size)
  have HFB := Lib.hid hfb
  clear hfb hba
  generalize wb.alloc (.cells #[.int .i64 0, .string ⟨#[47, 97]⟩, .int .i64 0, .int .i64 0, .slice none 0 0, .int .i64 6, .string ⟨#[47, 97]⟩, .int .i64 0, .int .i64 5, .slice none 0 0, .int .i64 7, .string ⟨#[47]⟩, .int .i64 0, .int .i64 0, .slice none 0 0] 58) = wc at *
  refine HRUN.out.mono ?_
  rintro e wd ⟨G, gc, ys, rfl, hys, hmt, hch, L', hmem, hroot, hfp, hans⟩
  have HB4 := Lib.hid (HB3.out.trans (hch.below HSC.out (fun i hi => by rw [HFB.out i hi]; exact Nat.le_refl _)))
  obtain ⟨y0, y1, y2, rfl, h0, h1, h1d, h2, h2n⟩ := mts3 hmt hys
  obtain ⟨g, rfl, hgl, a0, a1, a2⟩ := hans.at hys (j := 0) (by simp)
  obtain ⟨g', eg, _, b0, b1, b2⟩ := hans.at hys (j := 1) (by simp)
  injection eg with eg
  injection eg with eg _
  subst eg
  obtain ⟨g', eg, _, c0, c1, c2⟩ := hans.at hys (j := 2) (by simp)
  injection eg with eg
  injection eg with eg _
  subst eg
  have htx := (hans.ok y2 (by simp)).txs
  rw [h2n] at htx
  obtain ⟨gn, on, en, hnl, hnc⟩ := htx.at' 0 (by simp)
  simp only [List.getElem_cons_zero, List.getElem_cons_succ, Nat.zero_mul, Nat.one_mul, Nat.zero_add, Nat.add_zero] at a0 a1 a2 b0 b1 b2 c0 c1 c2 hnc
  rw [h0] at a0
  rw [h1] at b0
  rw [h1d] at b1
  rw [h2] at c0
  rw [h2n, en] at c2
  simp only [List.length_cons, List.length_nil, Nat.zero_add] at c2
  clear htx hmem hroot hfp hans hmt hch hys HRUN h0 h1 h1d h2 h2n
  go_wp2
  go_ret
  exact ⟨rfl, by rw [HBB.out]; exact HB4.out⟩
end Mod
end Go.Proofs.YtkhkcfbacnkcnaaGreatDoor
/- Law 14's deeds as law 13's acts; whether deeds are few. -/
namespace Go.Proofs.YtkhkcfbacnkcnaaGreatDoor
open Go.RowKit Go.MapKept
namespace Mod
open Tre (Ac Acs FewA fewA Lit)
open Trk (Chg row_blk)
open Pat (Txs)

/-- a deed's kind, as an act has it -/
def kq (k : Int) : Nat := (k % 256).toNat
theorem u8_kq (k : Int) : IntKind.u8.wrap k = (kq k : Int) := by
  unfold kq
  rw [IntKind.wrap_u8]
  omega
theorem kq_lt (k : Int) : kq k < 256 := by unfold kq; omega
/-- a deed as an act -/
def toAc (g : Dd) : Ac := ⟨kq g.k, g.p, g.x, g.n, g.a, g.c, g.b⟩
abbrev aca (g : Ac) : List Value := [.int .u8 (g.k : Int), .string g.p, .int .i64 g.x, .int .i64 g.n, .slice g.a g.b.length g.c]
def acells (l : List Ac) : List Value := l.flatMap aca
theorem acells_app (l m : List Ac) : acells (l ++ m) = acells l ++ acells m := by
  unfold acells
  rw [List.flatMap_append]
theorem acells_len (l : List Ac) : (acells l).length = l.length * 5 := by
  induction l with
  | nil => rfl
  | cons f l ih => simp only [acells, List.flatMap_cons, List.length_append, List.length_cons, List.length_nil] at *; omega
theorem acells_get {l : List Ac} : ∀ {j : Nat} (h : j < l.length), (acells l)[j * 5]? = some (.int .u8 (l[j].k : Int)) ∧ (acells l)[j * 5 + 1]? = some (.string l[j].p) ∧ (acells l)[j * 5 + 2]? = some (.int .i64 l[j].x) ∧ (acells l)[j * 5 + 3]? = some (.int .i64 l[j].n) ∧ (acells l)[j * 5 + 4]? = some (.slice l[j].a l[j].b.length l[j].c) := by
  induction l with
  | nil => intro j h; simp at h
  | cons f l ih =>
    intro j h
    cases j with
    | zero => exact ⟨rfl, rfl, rfl, rfl, rfl⟩
    | succ j =>
      have := ih (j := j) (by simpa using h)
      have e : (j + 1) * 5 = j * 5 + 1 + 1 + 1 + 1 + 1 := by omega
      rw [e]
      simpa [acells] using this
theorem act_info : ∃ i0, Tryz.prog.info? 32 = some i0 ∧ i0.zero = some (.agg #[.int .u8 0, .string ByteArray.empty, .int .i64 0, .int .i64 0, .slice none 0 0]) ∧ i0.size = 5 ∧ i0.bytes = 64 := by
  have hinf : (Tryz.prog.info? 32).map (fun i => (i.zero, i.size, i.bytes)) = some (some (.agg #[.int .u8 0, .string ByteArray.empty, .int .i64 0, .int .i64 0, .slice none 0 0]), 5, 64) := by kernel_rfl
  obtain ⟨i, hi, hzz⟩ := Option.map_eq_some_iff.1 hinf
  simp only [Prod.mk.injEq] at hzz
  exact ⟨i, hi, hzz.1, hzz.2.1, hzz.2.2⟩
/-- an act more, in a row of the call's own -/
theorem acts_more {w : World} {B n c : Nat} {G : Option Addr} {l : List Ac} (h : w.ownsRow B 32 5 (.slice G n c) n (acells l)) (g : Ac) (m : Nat) (hm : g.b.length = m) (hB : B ≤ w.heap.size) (hn : (n + 1) * 64 ≤ 140737488355328) :
    ∃ G2 c2 w2, (Builtin.append_ #[22, 22] 22 #[.slice G n c, .slice (some ⟨w.heap.size, 0, none⟩) 1 1]).run Tryz.prog (w.alloc (.cells #[.int .u8 (g.k : Int), .string g.p, .int .i64 g.x, .int .i64 g.n, .slice g.a m g.c] 32)) = .ok (.slice G2 (n + 1) c2) w2 ∧ w2.ownsRow B 32 5 (.slice G2 (n + 1) c2) (n + 1) (acells (l ++ [g])) ∧ Below B w w2 := by
  subst hm
  obtain ⟨i0, hi0, hz0, hz1, hz2⟩ := act_info
  have hba : Below w.heap.size w (w.alloc (.cells #[.int .u8 (g.k : Int), .string g.p, .int .i64 g.x, .int .i64 g.n, .slice g.a g.b.length g.c] 32)) := (Below.refl _ w).alloc (Nat.le_refl _) _
  have ha := Trk.own_chg h (Chg.of_below (F := fun _ => False) hba) (fun _ _ h => h)
  obtain ⟨v2, w2, hrun, ho, hg, _, _⟩ := run_append_own_at (P := Tryz.prog) (w.alloc (.cells #[.int .u8 (g.k : Int), .string g.p, .int .i64 g.x, .int .i64 g.n, .slice g.a g.b.length g.c] 32)) B 22 22 32 i0 _ 5 64 Tryz.underlying22 hi0 hz0 hz1 hz2 rfl (by decide) _ n (acells l) ha ⟨w.heap.size, 0, none⟩ 1 1 (aca g) rfl (fun j x hj => by
    match j, hj with
    | 0, hj => simp only [aca, List.getElem?_cons_zero, Option.some.injEq] at hj; subst hj; rw [Go.WideShapes.add_plain, Crc.alloc_cell]; rfl
    | 1, hj => simp only [aca, List.getElem?_cons_succ, List.getElem?_cons_zero, Option.some.injEq] at hj; subst hj; rw [Go.WideShapes.add_plain, Crc.alloc_cell]; rfl
    | 2, hj => simp only [aca, List.getElem?_cons_succ, List.getElem?_cons_zero, Option.some.injEq] at hj; subst hj; rw [Go.WideShapes.add_plain, Crc.alloc_cell]; rfl
    | 3, hj => simp only [aca, List.getElem?_cons_succ, List.getElem?_cons_zero, Option.some.injEq] at hj; subst hj; rw [Go.WideShapes.add_plain, Crc.alloc_cell]; rfl
    | 4, hj => simp only [aca, List.getElem?_cons_succ, List.getElem?_cons_zero, Option.some.injEq] at hj; subst hj; rw [Go.WideShapes.add_plain, Crc.alloc_cell]; rfl
    | j + 5, hj => simp [aca] at hj) (by simp [aca, Value.oneCell']) (by unfold maxLen; omega) (by omega) (Nat.le_trans hB hba.size)
  have hrow : w2.ownsRow B 32 5 v2 (n + 1) (acells (l ++ [g])) := by
    rw [acells_app]
    simpa [acells] using ho
  obtain ⟨G2, c2, rfl⟩ : ∃ A c, v2 = .slice A (n + 1) c := by
    rcases hrow.2 with ⟨_, h0⟩ | ⟨g, cap, cur, e, _⟩
    · omega
    · exact ⟨_, _, e⟩
  refine ⟨G2, c2, w2, hrun, hrow, ?_⟩
  have hb2 : Below B w (w.alloc (.cells #[.int .u8 (g.k : Int), .string g.p, .int .i64 g.x, .int .i64 g.n, .slice g.a g.b.length g.c] 32)) := (Below.refl B w).alloc hB _
  exact hb2.grown hg (Nat.le_trans hB hba.size) (fun k hk => (row_blk ha hk).1)
theorem acts_of {w : World} {B n c : Nat} {G : Option Addr} {l : List Ac} (h : w.ownsRow B 32 5 (.slice G n c) n (acells l)) (hn : n ≤ 9223372036854775807) (hok : ∀ g ∈ l, g.k < 256 ∧ g.p.size ≤ 9223372036854775807 ∧ g.b.length ≤ g.c ∧ Crc.Bts w g.a g.b ∧ (g.a = none → g.c = 0) ∧ g.x ≤ 9223372036854775807 ∧ g.n ≤ 9223372036854775807) : Acs w G l ∧ l.length = n := by
  have hln : l.length = n := by
    have := h.1
    rw [acells_len] at this
    omega
  subst hln
  refine ⟨⟨hn, hok, fun j hj => ?_⟩, rfl⟩
  obtain ⟨g0, g1, g2, g3, g4⟩ := acells_get hj
  rcases h.2 with ⟨_, h0⟩ | ⟨g, cap, cur, e, _⟩
  · omega
  · injection e with e1 e2 e3
    subst e1 e3
    refine ⟨g, 0, rfl, (row_blk h (k := g) rfl).2, ?_, ?_, ?_, ?_, ?_⟩
    · rw [Nat.zero_add]; exact (h.cellAt (j * 5) (by omega)).trans g0
    · rw [Nat.zero_add]; exact (h.cellAt (j * 5 + 1) (by omega)).trans g1
    · rw [Nat.zero_add]; exact (h.cellAt (j * 5 + 2) (by omega)).trans g2
    · rw [Nat.zero_add]; exact (h.cellAt (j * 5 + 3) (by omega)).trans g3
    · rw [Nat.zero_add]; exact (h.cellAt (j * 5 + 4) (by omega)).trans g4

set_option maxRecDepth 100000 in
set_option maxHeartbeats 1000000 in
theorem act_any (w : World) (k x n : Int) (q m c : Nat) (p : ByteArray) (B : Option Addr) (hq : IntKind.u8.wrap k = (q : Int)) :
    Calls Tryz.prog 56 #[.agg #[.int .i64 k, .string p, .int .i64 x, .int .i64 n, .slice B m c]] w fun e w' => e = .returned (.agg #[.int .u8 (q : Int), .string p, .int .i64 x, .int .i64 n, .slice B m c]) ∧ Below w.heap.size w w' := by
  have HB := Lib.hid (((Below.refl w.heap.size w).alloc (Nat.le_refl _) (.cells #[.int .i64 k, .string p, .int .i64 x, .int .i64 n, .slice B m c] 58)).alloc (by simp) (.cells #[.int .u8 (q : Int), .string p, .int .i64 x, .int .i64 n, .slice B m c] 32))
  go_enter Tryz.func56, Tryz.ntmps56
  go_wp2
  have hz : ∀ j v, (#[.int .u8 (q : Int), .string p, .int .i64 x, .int .i64 n, .slice B m c] : Array Value)[j]? = some v → ((w.alloc (.cells #[.int .i64 k, .string p, .int .i64 x, .int .i64 n, .slice B m c] 58)).alloc (.cells #[.int .u8 (q : Int), .string p, .int .i64 x, .int .i64 n, .slice B m c] 32)).cell? ⟨w.heap.size + 1, j, none⟩ = some v := fun j v hj => by
    have := Crc.alloc_cell (w.alloc (.cells #[.int .i64 k, .string p, .int .i64 x, .int .i64 n, .slice B m c] 58)) #[.int .u8 (q : Int), .string p, .int .i64 x, .int .i64 n, .slice B m c] 32 j
    rw [show (w.alloc (.cells #[.int .i64 k, .string p, .int .i64 x, .int .i64 n, .slice B m c] 58)).heap.size = w.heap.size + 1 by simp] at this
    rw [this, hj]
  have z0 := hz 0 _ rfl
  have z1 := hz 1 _ rfl
  have z2 := hz 2 _ rfl
  have z3 := hz 3 _ rfl
  have z4 := hz 4 _ rfl
  refine bodyPost_ret (v := .agg #[.int .u8 (q : Int), .string p, .int .i64 x, .int .i64 n, .slice B m c]) ?_ rfl ⟨rfl, HB.out⟩
  simp [results, Tryz.results56, go_sem, z0, z1, z2, z3, z4]

/-- deeds are few, and little -/
def FewD (l : List Dd) : Prop := FewA (l.map toAc)
instance (l : List Dd) : Decidable (FewD l) := by unfold FewD; infer_instance

set_option maxRecDepth 100000 in
set_option maxHeartbeats 2000000 in
theorem few_any (w : World) (A : Option Addr) (n c : Nat) (l : List Dd) (h : Dds w A l) (hl : l.length = n) (hr : n * 64 ≤ 140737488351232) :
    Calls Tryz.prog 22 #[.slice A n c] w fun r w' => r = .returned (.bool (decide (FewD l))) ∧ Below w.heap.size w w' := by
  have H := Lib.hid h
  have HL := Lib.hid hl
  have HR := Lib.hid hr
  have hn9 : n ≤ 9223372036854775807 := by omega
  clear h hl hr
  go_enter Tryz.func22, Tryz.ntmps22
  go_wp2_with fail
  go_loopw [3, 8] (fun v ix wr => ∃ (j : Nat) (G : Option Addr) (gc : Nat), j ≤ n ∧ ix = .int .i64 (j : Int) ∧ v = .slice G j gc ∧ wr.ownsRow w.heap.size 32 5 (.slice G j gc) j (acells ((l.take j).map toAc)) ∧ Below w.heap.size w wr) (fun _ ix _ => n - (intOf ix).toNat)
  case atStart => exact ⟨0, none, 0, Nat.zero_le _, rfl, rfl, World.ownsRow_nil _ _ _ _, Below.refl _ _⟩
  case round =>
    obtain ⟨j, G, gc, hj, rfl, rfl, ho, hb⟩ := hrel
    have HO := Lib.hid ho
    have HB := Lib.hid hb
    have HD := Lib.hid (H.out.keep hb)
    clear ho hb
    by_cases hlt : j < n
    · have hlti : j < l.length := by rw [HL.out]; exact hlt
      obtain ⟨bi, oi, rfl, hbli, k0, k1, k2, k3, k4⟩ := HD.out.at' j hlti
      have HT := Lib.hid (show (l.take (j + 1)).map toAc = (l.take j).map toAc ++ [toAc l[j]] by rw [List.take_succ_eq_append_getElem hlti, List.map_append]; rfl)
      have HAC := Lib.hid (show toAc l[j] = ⟨kq l[j].k, l[j].p, l[j].x, l[j].n, l[j].a, l[j].c, l[j].b⟩ from rfl)
      generalize toAc l[j] = ac at *
      generalize l[j] = q at *
      obtain ⟨k, p, x, nn, ga, gc0, bs⟩ := q
      simp only at k0 k1 k2 k3 k4 HAC
      generalize hm : bs.length = m at *
      have HM := Lib.hid hm
      clear hm
      have hj0 : (j : Int) < (n : Int) := by omega
      have hm0 : (0 : Int) ≤ (j : Int) := by omega
      clear hlti
      have hbx := (Below.refl wr.heap.size wr).alloc (Nat.le_refl _) (.cells #[.int .i64 k, .string p, .int .i64 x, .int .i64 nn, .slice ga m gc0] 58)
      have HBX := Lib.hid hbx
      have HA := Lib.hid (act_any (wr.alloc (.cells #[.int .i64 k, .string p, .int .i64 x, .int .i64 nn, .slice ga m gc0] 58)) k x nn (kq k) m gc0 p ga (u8_kq k))
      clear hbx
      generalize kq k = q at *
      go_wp2_with fail
      refine HA.out.mono ?_
      rintro e w2 ⟨rfl, hb2⟩
      have hb3 := HBX.out.trans (hb2.mono HBX.out.size)
      obtain ⟨G2, c2, w3, hrun, ho3, hb4⟩ := acts_more (Trk.own_chg HO.out (Chg.of_below (F := fun _ => False) hb3) (fun _ _ h => h)) ⟨q, p, x, nn, ga, gc0, bs⟩ m HM.out (Nat.le_trans HB.out.size hb3.size) (by have := HR.out; omega)
      have HRUN := Lib.hid hrun
      rw [← HAC.out, ← HT.out] at ho3
      have HO3 := Lib.hid ho3
      have HB3 := Lib.hid ((HB.out.trans (hb3.mono HB.out.size)).trans hb4)
      clear hb2 hb3 hrun ho3 hb4 k0 k1 k2 k3 k4
      simp only at HRUN
      go_wp2_with (at_builtin; refine Pat.wpList_append_run rfl (.tmp 12) (.tmp 15) 22 rfl _ _ _ rfl rfl HRUN.out ?_)
      exact ⟨⟨j + 1, G2, c2, by omega, by go_num, rfl, HO3.out, HB3.out⟩, by simp [intOf]; omega⟩
    · obtain rfl : j = n := by omega
      have ho := HO.out
      rw [List.take_of_length_le (by have := HL.out; omega)] at ho
      obtain ⟨hA, hAl⟩ := acts_of ho hn9 (fun g hg => by
        obtain ⟨g', hg', rfl⟩ := List.mem_map.1 hg
        obtain ⟨h1, h2, h3, h4, h5, h6⟩ := HD.out.ok g' hg'
        exact ⟨kq_lt _, h1, h2, h3, h4, h5, h6⟩)
      have hfw := Tre.few_any wr G gc (l.map toAc) hA
      rw [hAl] at hfw
      have HFW := Lib.hid (show Calls Tryz.prog 8 #[.slice G j gc] wr fun r w' => r = .returned (.bool (decide (FewD l))) ∧ Below wr.heap.size wr w' from hfw)
      clear ho hA hAl hfw
      generalize hfd : decide (FewD l) = fd at *
      have HFD := Lib.hid hfd
      clear hfd
      go_wp2_with fail
      refine HFW.out.mono ?_
      rintro e w2 ⟨rfl, hb2⟩
      have HB2 := Lib.hid (HB.out.trans (hb2.mono HB.out.size))
      clear hb2
      go_wp2
      go_ret
      exact ⟨by rw [HFD.out]; rfl, HB2.out⟩
end Mod
end Go.Proofs.YtkhkcfbacnkcnaaGreatDoor
/- Law 14's ModelNames. -/
namespace Go.Proofs.YtkhkcfbacnkcnaaGreatDoor
open Go.RowKit Go.MapKept
namespace Mod

/-- the kinds' names -/
def nms : List ByteArray := [⟨#[99, 114, 101, 97, 116, 101]⟩, ⟨#[109, 107, 100, 105, 114]⟩, ⟨#[119, 114, 105, 116, 101]⟩, ⟨#[116, 114, 117, 110, 99, 97, 116, 101]⟩, ⟨#[117, 110, 108, 105, 110, 107]⟩, ⟨#[114, 109, 100, 105, 114]⟩, ⟨#[114, 101, 97, 100]⟩, ⟨#[108, 105, 115, 116]⟩]
/-- a kind's name, "" of none -/
def nmT (k : Int) : ByteArray := if k = 0 then ⟨#[99, 114, 101, 97, 116, 101]⟩ else if k = 1 then ⟨#[109, 107, 100, 105, 114]⟩ else if k = 2 then ⟨#[119, 114, 105, 116, 101]⟩ else if k = 3 then ⟨#[116, 114, 117, 110, 99, 97, 116, 101]⟩ else if k = 4 then ⟨#[117, 110, 108, 105, 110, 107]⟩ else if k = 5 then ⟨#[114, 109, 100, 105, 114]⟩ else if k = 6 then ⟨#[114, 101, 97, 100]⟩ else if k = 7 then ⟨#[108, 105, 115, 116]⟩ else ⟨#[]⟩
theorem nmT_at (j : Nat) (hj : j < 8) : nmT (j : Int) = nms.getD j ⟨#[]⟩ := by
  match j, hj with
  | 0, _ => rfl
  | 1, _ => rfl
  | 2, _ => rfl
  | 3, _ => rfl
  | 4, _ => rfl
  | 5, _ => rfl
  | 6, _ => rfl
  | 7, _ => rfl
theorem nmT_no (k : Int) (h : ¬ (0 ≤ k ∧ k < 8)) : nmT k = ⟨#[]⟩ := by
  unfold nmT
  repeat (first | rw [if_neg (by omega)])
set_option maxRecDepth 100000 in
theorem changes_any (w : World) (k : Int) : Calls Tryz.prog 28 #[.int .i64 k] w fun e w' => e = .returned (.bool (decide (0 ≤ k) && decide (k ≤ 5))) ∧ w' = w := by
  go_enter Tryz.func28, Tryz.ntmps28
  by_cases h0 : 0 ≤ k
  · have h1 : (0 ≤ k) = True := eq_true h0
    have HD := Lib.hid (show decide (0 ≤ k) = true from decide_eq_true h0)
    clear h0
    go_wp2
    go_ret
    exact ⟨by rw [HD.out]; rfl, rfl⟩
  · have h1 : (0 ≤ k) = False := eq_false h0
    have HD := Lib.hid (show decide (0 ≤ k) = false from decide_eq_false h0)
    clear h0
    go_wp2
    go_ret
    exact ⟨by rw [HD.out]; rfl, rfl⟩

end Mod
end Go.Proofs.YtkhkcfbacnkcnaaGreatDoor
