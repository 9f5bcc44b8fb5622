/- GeometryBits, walked: each block has a bit of its own. -/
import Derived.Test.YtoagfpjaaiodgaaGeoKeys
import Derived.Test.YtoagfpjaaiodgaaGeoApart
namespace Go.Proofs.Ytoagfpjaaiodgaa
open Go.RowKit Go.MapKept Go.ChangeMaps
namespace Geo

/-- the geometry in block b, the map in block r with so many entries -/
structure Mp (w0 : World) (b r bm i : Nat) (n m s : Int) (w : World) : Prop where
  box : Box w b n m s
  mp : w.heap[r]? = some (.map (ents bm i) i)
  br : b ≠ r
  below : Below w0.heap.size w0 w
  nr : w0.heap.size ≤ r

theorem lt_of_some {w : World} {r : Nat} {o : Obj} (h : w.heap[r]? = some o) : r < w.heap.size := (Array.getElem?_eq_some_iff.1 h).1
theorem alloc_new (w : World) (o : Obj) : (w.alloc o).heap[w.heap.size]? = some o := by show (w.heap.push o)[w.heap.size]? = some o; simp
theorem Mp.keep {w0 w w' : World} {b r bm i : Nat} {n m s : Int} (h : Mp w0 b r bm i n m s w) (hb : Below w.heap.size w w') : Mp w0 b r bm i n m s w' :=
  ⟨h.box.keep hb, (hb.block _ (lt_of_some h.mp)).trans h.mp, h.br, h.below.trans (hb.mono h.below.size), h.nr⟩
theorem Mp.drew {w0 w : World} {b r bm i : Nat} {n m s : Int} (h : Mp w0 b r bm i n m s w) : Mp w0 b r bm i n m s w.drew := ⟨h.box.drew, h.mp, h.br, h.below.drew, h.nr⟩
theorem set_ne {w : World} {r k : Nat} (o : Obj) (h : k ≠ r) : (setBlock w r o).heap[k]? = w.heap[k]? := by simp [setBlock, Ne.symm h]
theorem set_at {w : World} {r : Nat} (o : Obj) (h : r < w.heap.size) : (setBlock w r o).heap[r]? = some o := by simp [setBlock, h]
theorem set_size {w : World} {r : Nat} (o : Obj) : (setBlock w r o).heap.size = w.heap.size := by simp [setBlock]
theorem set_set {w : World} {r : Nat} (o o' : Obj) : setBlock (setBlock w r o) r o' = setBlock w r o' := by simp [setBlock]
theorem set_drew {w : World} {r : Nat} (o : Obj) : setBlock w.drew r o = (setBlock w r o).drew := rfl
theorem Mp.set {w0 w : World} {b r bm i i' : Nat} {n m s : Int} (h : Mp w0 b r bm i n m s w) : Mp w0 b r bm i' n m s (setBlock w r (.map (ents bm i') i')) :=
  ⟨⟨by rw [set_size]; exact h.box.lt, (World.cell?_of_block (w := w) (a := ⟨b, 0, none⟩) (set_ne _ h.br)).trans h.box.c0, (World.cell?_of_block (w := w) (a := ⟨b, 1, none⟩) (set_ne _ h.br)).trans h.box.c1, (World.cell?_of_block (w := w) (a := ⟨b, 2, none⟩) (set_ne _ h.br)).trans h.box.c2⟩,
   set_at _ (lt_of_some h.mp), h.br,
   ⟨h.below.os, h.below.tape, h.below.output, Nat.le_trans h.below.size (by rw [set_size]; exact Nat.le_refl _), fun k hk => (set_ne _ (fun e => by have := h.nr; omega)).trans (h.below.block k hk)⟩, h.nr⟩

set_option maxHeartbeats 4000000 in
set_option maxRecDepth 100000 in
theorem bits_walk (w : World) (n m k : Nat) (p : Plan) (s : Int) (hp : p.Is p.B p.M s)
    (hs : ∀ w, Calls Try.prog 21 #[.int .u8 (n : Int), .int .u8 (m : Int), .int .u8 (k : Int)] w fun r w' => r = .returned (.agg #[.int .i64 (p.B : Int), .int .i64 (p.M : Int), .int .i64 s]) ∧ Below w.heap.size w w') :
    Calls Try.prog 6 #[.int .u8 (n : Int), .int .u8 (m : Int), .int .u8 (k : Int)] w fun r w' => r = .returned (.bool true) ∧ Below w.heap.size w w' := by
  have HL := Lib.hid (lives_any w)
  have HS := Lib.hid hs
  have C10 : Hid (∀ w, Calls Try.prog 10 #[.agg #[.int .i64 (p.B : Int), .int .i64 (p.M : Int), .int .i64 s]] w fun r w' => r = .returned (.tuple #[.int .i64 (p.bm : Int), .int .i64 (p.wn : Int)]) ∧ Below w.heap.size w w') := Lib.hid (fun w => by
    have := bitmap_any w p.B p.M s; rwa [iff_yes hp.ok, iff_yes hp.ok, hp.eB, hp.eW] at this)
  have C9 : Hid (∀ w (i x y : Nat), i < p.B → x = p.bm + i / 64 → y = i % 64 → Calls Try.prog 9 #[.agg #[.int .i64 (p.B : Int), .int .i64 (p.M : Int), .int .i64 s], .int .i64 (i : Int)] w fun r w' => r = .returned (.tuple #[.int .i64 (x : Int), .int .i64 (y : Int)]) ∧ Below w.heap.size w w') := Lib.hid (fun w i x y hi hx hy => by
    have hI : Is p.B p.M s i := ⟨hp.ok, by omega, by omega⟩
    have := bit_any w p.B p.M s i
    rw [isf_yes hI, isf_yes hI, hp.eB] at this
    have e1 : ((p.bm : Int) + (i : Int) / 64) = (x : Int) := by omega
    have e2 : (i : Int) % 64 = (y : Int) := by omega
    rwa [e1, e2] at this)
  have hbm : p.bm ≤ 100000 := by
    have h4 := hp.bm2
    have h5 := hp.eS
    have h6 := hp.M2
    have h7 := hp.B2
    omega
  have hwn : p.wn ≤ 10 := by have h7 := hp.B2; have h8 := hp.eW; omega
  have HWN := Lib.hid hp.eW
  have hB1 := hp.B1
  have hB2 := hp.B2
  clear hs hp
  go_enter Try.func6, Try.ntmps6
  go_wp2_with fail
  refine HL.out.mono ?_
  rintro e w1 ⟨rfl, hb⟩
  have HB1 := Lib.hid hb
  clear hb HL
  go_wp2_with fail
  refine (HS.out _).mono ?_
  rintro e w2 ⟨rfl, hb⟩
  have h3 := HB1.out.trans (hb.mono HB1.out.size)
  have HB2 := Lib.hid (h3.alloc h3.size (.cells #[.int .i64 (p.B : Int), .int .i64 (p.M : Int), .int .i64 s] 24))
  have HX := Lib.hid (boxed w2 p.B p.M s 24)
  clear hb h3 HB1 HS
  go_wp2_with fail
  refine (C10.out _).mono ?_
  rintro e w3 ⟨rfl, hb⟩
  have HX3 := Lib.hid (HX.out.keep hb)
  have HB3 := Lib.hid (HB2.out.trans (hb.mono HB2.out.size))
  clear hb HX HB2 C10
  generalize w2.heap.size = b at *
  have T0 : Hid (Mp w b w3.heap.size p.bm 0 p.B p.M s (w3.alloc (.map #[] 0))) := Lib.hid (by
    have h1 : Below w3.heap.size w3 (w3.alloc (.map #[] 0)) := (Below.refl _ _).alloc (Nat.le_refl _) _
    have hlt := HX3.out.lt
    exact ⟨HX3.out.keep h1, alloc_new _ _, by omega, HB3.out.trans (h1.mono HB3.out.size), HB3.out.size⟩)
  have hblt := HX3.out.lt
  have hk0 := T0.out.box.c0
  have hk1 := T0.out.box.c1
  have hk2 := T0.out.box.c2
  have hmm := @run_makeMap Try.prog
  go_wp2
  clear hmm hk0 hk1 hk2 hblt HX3 HB3
  generalize w3.alloc (.map #[] 0) = W at *
  generalize w3.heap.size = r at *
  go_loopw [28] (fun x wr => ∃ i : Nat, i ≤ p.B ∧ x = .int .i64 (i : Int) ∧ Mp w b r p.bm i p.B p.M s wr) (fun x _ => p.B - (intOf x).toNat)
  case atStart => exact ⟨0, Nat.zero_le _, rfl, T0.out⟩
  case round =>
    obtain ⟨i, hi, rfl, hst⟩ := hrel
    have T := Lib.hid hst
    clear hst T0
    have hk0 := T.out.box.c0
    have hk1 := T.out.box.c1
    have hk2 := T.out.box.c2
    by_cases hlt : i < p.B
    · obtain ⟨x, hx⟩ : ∃ x, x = p.bm + i / 64 := ⟨_, rfl⟩
      obtain ⟨y, hy⟩ : ∃ y, y = i % 64 := ⟨_, rfl⟩
      have HI := Lib.hid (fun w => C9.out w i x y hlt hx hy)
      have g1 : (p.bm : Int) ≤ (x : Int) := by omega
      have g2 : (x : Int) < (p.bm : Int) + (p.wn : Int) := by have := HWN.out; omega
      have g3 : (0 : Int) ≤ (y : Int) := by omega
      have g4 : (y : Int) ≤ 63 := by omega
      have HX := Lib.hid hx
      have HY := Lib.hid hy
      clear hx hy
      go_wp2_with fail
      refine (HI.out _).mono ?_
      rintro e w4 ⟨rfl, hb⟩
      have T4 := Lib.hid (T.out.keep hb)
      clear hb hk0 hk1 hk2
      have hr1 := run_look (w := w4.drew) (r := r) (bm := p.bm) (b := i) (by omega) (by omega) T4.out.mp
      have hr2 := run_entry (w := w4.drew) (r := r) (bm := p.bm) (b := i) (by omega) (by omega) T4.out.mp
      have hr3 := run_look_new (w := setBlock w4.drew r (.map ((ents p.bm i).push (ent p.bm i 0)) (i + 1))) (r := r) (bm := p.bm) (b := i) (by omega) (by omega) (set_at _ (lt_of_some T4.out.mp))
      have hr4 := run_store (w := setBlock w4.drew r (.map ((ents p.bm i).push (ent p.bm i 0)) (i + 1))) (r := r) (bm := p.bm) (b := i) (set_at _ (lt_of_some T4.out.mp))
      rw [← HX.out, ← HY.out] at hr1 hr2 hr3
      unfold ky at hr1 hr2 hr3
      rw [set_set] at hr4
      go_wp2
      go_region
      clear hr1 hr2 hr3 hr4
      have T5 := Lib.hid (T4.out.drew.set (i' := i + 1))
      go_wp2
      go_roundw
      case rel => exact ⟨i + 1, by omega, by go_num, T5.out⟩
      case measure => simp [intOf]; omega
    · obtain rfl : i = p.B := by omega
      have hlen := fun ty => run_len (w := wr) (r := r) (bm := p.bm) (b := p.B) T.out.mp ty
      go_wp2
      go_ret
      exact ⟨rfl, T.out.below⟩
end Geo
end Go.Proofs.Ytoagfpjaaiodgaa
