/- Encode, walked. -/
import Derived.Test.YtobffegkdoefnaaDoorEntPut
import Derived.Deep.RegionHeld3
import Derived.BigCall
import Derived.RegionTactic
import Derived.ChangeAlike
import Derived.Lib.LazyBuf
import Derived.Laws.MakeOwn
namespace Go.Proofs.YtobffegkdoefnaaDoor
open Go.RowKit Go.MapKept
namespace Ent

theorem get_new {w : World} {o : Obj} {k : Nat} (h : k = w.heap.size) : (w.alloc o).heap[k]? = some o := by
  subst h
  show (w.heap.push o)[w.heap.size]? = _
  simp
theorem get_old {w : World} {o x : Obj} {k : Nat} (h : w.heap[k]? = some x) : (w.alloc o).heap[k]? = some x := (Below.heap_alloc w o k (Array.getElem?_eq_some_iff.1 h).1).trans h
theorem get_drew {w : World} {x : Obj} {k : Nat} (h : w.heap[k]? = some x) : w.drew.heap[k]? = some x := h
theorem pts_at1 {W : World} {k n0 c0 : Nat} {t : TypeId} {A0 : Option Addr} {l0 : List Nat} (hk : W.heap[k]? = some (.cells #[.slice A0 n0 c0] t)) (h0 : Crc.Bts W A0 l0) (e0 : n0 = l0.length) : Crc.Pts W (some ⟨k, 0, none⟩) [⟨A0, c0, l0⟩] := by
  subst e0
  exact ⟨by simp, fun i hi => ⟨k, 0, rfl, (Array.getElem?_eq_some_iff.1 hk).1, by
    obtain rfl : i = 0 := by simpa using hi
    unfold World.cell?
    rw [hk]
    rfl⟩, fun i hi => by
    obtain rfl : i = 0 := by simpa using hi
    exact h0⟩
theorem sum32_at1 {W : World} {k n0 c0 cc : Nat} {t : TypeId} {A0 : Option Addr} {l : List Nat} (hk : W.heap[k]? = some (.cells #[.slice A0 n0 c0] t)) (h0 : Crc.Bts W A0 l) (e0 : n0 = l.length) :
    Calls Tryd.prog 36 #[.slice (some ⟨k, 0, none⟩) 1 cc] W fun e w' => e = .returned (.int .u32 (Crc.S32 l : Nat)) ∧ W = w' := by
  have := Crc.sum32_any _ cc _ (pts_at1 hk h0 e0)
  rw [Crc.flat_one] at this
  exact this

theorem below_alloc {w W : World} {o : Obj} (h : Below w.heap.size w W) : Below w.heap.size w (W.alloc o) := h.alloc h.size o

theorem encode_no (w : World) (s : ByteArray) (i : Int) (hs : s.size ≤ 9223372036854775807) (hm : may (Crc.tx s) i = false) :
    Calls Tryd.prog 25 #[.agg #[.string s, .int .i64 i]] w fun r w' => r = .returned (.tuple #[.slice none 0 0, .int .i64 1]) ∧ Below w.heap.size w w' := by
  have HM := Lib.hid (fun w => may_any w s i hs)
  have HE := Lib.hid hm
  clear hm
  have HB := Lib.hid ((Below.refl w.heap.size w).alloc (Nat.le_refl _) (.cells #[.string s, .int .i64 i] 47))
  go_enter Tryd.func25, Tryd.ntmps25
  go_wp2_with fail
  refine (HM.out _).mono ?_
  rintro e w' ⟨rfl, hb⟩
  rw [HE.out]
  have HB1 := Lib.hid (HB.out.trans (hb.mono HB.out.size))
  clear hb
  go_wp2
  go_ret2
  exact ⟨rfl, HB1.out⟩

/-- the bytes as they are laid, one after the other -/
def f1 (k : Nat) : Nat → Nat := putf (fun _ => 0) 0 k 2
def f2 (k n : Nat) (i : Nat) : Nat := if i = 2 then n else f1 k i
def f3 (l : List Nat) (k : Nat) (i : Nat) : Nat := if 4 ≤ i ∧ i < 4 + l.length then at' l (i - 4) else f2 k l.length i

theorem f3_front {l : List Nat} {k : Nat} (i : Nat) (hi : i < 60) : f3 l k i = at' (front l k) i := by
  unfold f3 f2 f1 putf at' front
  match i, hi with
  | 0, _ => simp
  | 1, _ => simp
  | 2, _ => simp
  | 3, _ => simp
  | i + 4, hi =>
    simp only [List.cons_append, List.nil_append, List.getElem?_cons_succ]
    by_cases h : i < l.length
    · rw [if_pos (by omega), List.getElem?_append_left h, show i + 4 - 4 = i by omega]
    · rw [if_neg (by omega), if_neg (by omega), if_neg (by omega), List.getElem?_append_right (by omega)]
      rw [List.getElem?_replicate]
      split <;> rfl
theorem f4_enc {l : List Nat} {k : Nat} (hl : l.length ≤ 48) (i : Nat) (hi : i < 64) : putf (f3 l k) 60 (Crc.S32 (front l k)) 4 i = at' (enc l k) i := by
  have hfl := front_len hl k
  unfold enc at'
  by_cases h : i < 60
  · rw [List.getElem?_append_left (by omega)]
    unfold putf
    rw [if_neg (by omega)]
    exact f3_front i h
  · rw [List.getElem?_append_right (by omega), hfl]
    generalize Crc.S32 (front l k) = x
    unfold putf q4
    have : i = 60 ∨ i = 61 ∨ i = 62 ∨ i = 63 := by omega
    rcases this with rfl | rfl | rfl | rfl <;> simp
theorem copy_f3 {s : ByteArray} {k : Nat} (j : Nat) : (if 4 ≤ j ∧ j < 4 + (s.data.toList.map fun x : UInt8 => Value.int .u8 (x.toNat : Int)).length then (s.data.toList.map fun x : UInt8 => Value.int .u8 (x.toNat : Int))[j - 4]?.getD default else Value.int .u8 ((f2 k (Crc.tx s).length j : Nat) : Int)) = Value.int .u8 ((f3 (Crc.tx s) k j : Nat) : Int) := by
  have e : (s.data.toList.map fun x : UInt8 => Value.int .u8 (x.toNat : Int)) = (Crc.tx s).map fun b : Nat => Value.int .u8 (b : Int) := by
    unfold Crc.tx
    rw [List.map_map]
    rfl
  rw [e, List.length_map]
  unfold f3
  by_cases h : 4 ≤ j ∧ j < 4 + (Crc.tx s).length
  · rw [if_pos h, if_pos h, List.getElem?_map]
    unfold at'
    rw [List.getElem?_eq_getElem (show j - 4 < (Crc.tx s).length by omega)]
    rfl
  · rw [if_neg h, if_neg h]

theorem size_u8 (W : World) : (Go.sizeOf 5).run Tryd.prog W = .ok 1 W := by kernel_rfl

set_option maxHeartbeats 4000000 in
set_option maxRecDepth 100000 in
theorem encode_yes (w : World) (s : ByteArray) (k : Nat) (hm : may (Crc.tx s) (k : Int) = true) :
    Calls Tryd.prog 25 #[.agg #[.string s, .int .i64 (k : Int)]] w fun r w' => ∃ g : Nat, w.heap.size ≤ g ∧ r = .returned (.tuple #[.slice (some ⟨g, 0, none⟩) 64 64, .int .i64 0]) ∧ Row w' g (at' (enc (Crc.tx s) k)) ∧ Below w.heap.size w w' := by
  have hl := may_len hm
  obtain ⟨k', ek, hk⟩ := may_nat hm
  obtain rfl : k = k' := by omega
  have hsz : s.size ≤ 48 := by rw [Crc.tx_len] at hl; exact hl
  have hfb := front_byt (Crc.tx_byt s) hl k
  have hfl := front_len hl k
  have HFB := Lib.hid hfb
  have HFL := Lib.hid hfl.symm
  have HL := Lib.hid hl
  have HM := Lib.hid (fun w => may_any w s (k : Int) (by omega))
  have HE := Lib.hid hm
  clear hm hl hfb hfl ek
  have HB := Lib.hid ((Below.refl w.heap.size w).alloc (Nat.le_refl _) (.cells #[.string s, .int .i64 (k : Int)] 47))
  have HX := Lib.hid (boxed w s k 47)
  go_enter Tryd.func25, Tryd.ntmps25
  go_wp2_with fail
  refine (HM.out _).mono ?_
  rintro e w1 ⟨rfl, hb⟩
  rw [HE.out]
  have HB1 := Lib.hid (HB.out.trans (hb.mono HB.out.size))
  have HX1 := Lib.hid (HX.out.keep hb)
  have hz1 : w.heap.size < w1.heap.size := HX1.out.lt
  clear hb HX HB
  have hmk := run_make_row' (P := Tryd.prog) 43 5 _ 1 Tryd.underlying43 Crc.u8_info rfl .i64 .i64 64 (by omega) (by omega) w1
  rw [show ((64 : Nat) : Int) = 64 from rfl] at hmk
  have hb2 := (Below.refl w1.heap.size w1).alloc (Nat.le_refl _) (.cells (madeCells #[.int .u8 0] 64) 5)
  have HR2 := Lib.hid (show Row (w1.alloc (.cells (madeCells #[.int .u8 0] 64) 5)) w1.heap.size (fun _ => 0) from World.rowIs_made w1 (.int .u8 0) 64 5)
  have HX2 := Lib.hid (HX1.out.keep hb2)
  have HB2 := Lib.hid (HB1.out.trans (hb2.mono HB1.out.size))
  clear hb2 HX1 HB1
  go_wp2
  generalize w1.alloc (.cells (madeCells #[.int .u8 0] 64) 5) = w2 at *
  generalize w1.heap.size = g at *
  clear hmk
  have hc1 := HX2.out.c1
  have hz2 : w.heap.size < w2.heap.size := HX2.out.lt
  have hkw : IntKind.wrap .u32 (k : Int) = (k : Int) := by rw [IntKind.wrap_u32']; omega
  go_region_held3 (fun W' => W'.cell? ⟨w.heap.size, 1, none⟩ = some (.int .i64 (k : Int))) (go_keep)
    (first
    | (go_at_call 35
       with_reducible refine (put_any _ g 0 2 64 k _ HR2.out.drew (by omega) (by omega) (by omega)).mono ?_
       rintro e w3 ⟨rfl, hr, hb⟩
       have HR3 := Lib.hid hr
       have HB3 := Lib.hid (HB2.out.drew.trans (hb.mono (Nat.le_of_lt hz1)))
       have HX3 := Lib.hid (HX2.out.drew.keepN hb hz1)
       have hk1 := HX3.out.c1
       clear hb hr))
  clear hkw hc1 hk1 HR2 HX2 HB2 hz2
  have hc0 := HX3.out.c0
  have hr2 := HR3.out.cell (i := 2) (by omega)
  have hf2 := HR3.out.frozen 2
  have hsm : (s.size : Int) % 256 = (s.size : Int) := by omega
  have HR4 := Lib.hid (show Row (w3.setCell ⟨g, 2, none⟩ (.int .u8 (s.size : Int))) g (f2 k (Crc.tx s).length) from (HR3.out.set 2 s.size).congr (fun i _ => by unfold f2 f1; rw [Crc.tx_len]))
  have HB4 := Lib.hid (HB3.out.setCell (p := ⟨g, 2, none⟩) (Nat.le_of_lt hz1) (.int .u8 (s.size : Int)))
  have hb4 := (Below.refl g w3).setCell (p := ⟨g, 2, none⟩) (Nat.le_refl _) (.int .u8 (s.size : Int))
  have HX4 := Lib.hid (HX3.out.keepN hb4 hz1)
  clear hb4 HR3 HB3
  go_wp2
  generalize w3.setCell ⟨g, 2, none⟩ (.int .u8 (s.size : Int)) = w4 at *
  clear hc0 hr2 hf2 hsm HX3
  have hc0 := HX4.out.c0
  have hcp := run_copy_string (P := Tryd.prog) w4.drew 43 9 3 5 g 4 60 60 s Tryd.underlying43 size_u8 (by omega) (fun j hj => by rw [HR4.out.drew.cell (by omega)]; rfl) (fun j hj => HR4.out.drew.frozen _)
  have HR5 := Lib.hid (show Row (w4.drew.setCells g 4 (s.data.toList.map fun x : UInt8 => Value.int .u8 (x.toNat : Int))) g (f3 (Crc.tx s) k) from (rowIs_setCells (s.data.toList.map fun x : UInt8 => Value.int .u8 (x.toNat : Int)) 4 w4.drew _ HR4.out.drew).congr (fun j _ => copy_f3 j))
  have HB5 := Lib.hid (below_setCells (b := g) (Nat.le_of_lt hz1) (s.data.toList.map fun x : UInt8 => Value.int .u8 (x.toNat : Int)) 4 _ HB4.out.drew)
  generalize w4.drew.setCells g 4 (s.data.toList.map fun x : UInt8 => Value.int .u8 (x.toNat : Int)) = w5 at *
  go_region
  go_wp2
  clear hcp hc0 HR4 HB4 HX4
  have HBT := Lib.hid (fun (W : World) (h : Row W g (f3 (Crc.tx s) k)) => h.bts 0 (front (Crc.tx s) k) HFB.out (by rw [← HFL.out]; omega) (fun j hj => by
    rw [Nat.zero_add, f3_front j (by rw [← HFL.out] at hj; exact hj)]
    unfold at'
    rw [List.getElem?_eq_getElem hj]
    rfl))
  have HS := Lib.hid (s32_lt (front (Crc.tx s) k))
  go_region_held3 (fun _ => True) (exact trivial) (first
    | (go_at_call 36
       with_reducible refine (sum32_at1 (l := front (Crc.tx s) k) (t := 43) (A0 := some ⟨g, 0, none⟩) (n0 := 60) (c0 := 64) ?_ ?_ HFL.out).mono ?_
       · repeat (first | (with_reducible refine get_new ?_; simp; done) | with_reducible refine get_drew ?_ | with_reducible refine get_old ?_)
       · refine HBT.out _ ?_
         repeat (first | with_reducible exact HR5.out | with_reducible refine Row.drew ?_ | with_reducible refine Row.alloc ?_ _)
       rintro e w' ⟨rfl, rfl⟩)
    | (go_at_call 35
       with_reducible refine (put_any _ g 60 4 4 (Crc.S32 (front (Crc.tx s) k)) (f3 (Crc.tx s) k) ?_ (by omega) HS.out (by omega)).mono ?_
       · repeat (first | with_reducible exact HR5.out | with_reducible refine Row.drew ?_ | with_reducible refine Row.alloc ?_ _)
       rintro e w6 ⟨rfl, hr, hb⟩
       have HR6 := Lib.hid hr
       have HB6 := Lib.hid hb
       clear hb hr))
  go_wp2
  go_ret2
  refine ⟨g, Nat.le_of_lt hz1, rfl, HR6.out.congr (fun i hi => f4_enc HL.out i hi), ?_⟩
  refine Below.trans ?_ (HB6.out.mono (Nat.le_of_lt hz1))
  repeat (first | with_reducible exact HB5.out | with_reducible refine Below.drew ?_ | with_reducible refine below_alloc ?_)
end Ent
end Go.Proofs.YtobffegkdoefnaaDoor
