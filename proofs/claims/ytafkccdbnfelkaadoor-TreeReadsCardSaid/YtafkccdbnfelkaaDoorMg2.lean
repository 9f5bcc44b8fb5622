/- Texts laid together: EntPut, EntEncode, EntDecode, EntRef, EntRefDec, EntLives, PatLives, PatPar, PatParLaw, PatKids, TreMem, PatJoin, PatRefSplit, TreGo, TreFile, TreAdd, TreSet, TreWithout, TrkMath, TrkMem, TrkLay, TrkFollow, TrkAt. -/
import Derived.Test.YtafkccdbnfelkaaDoorMg1
import Derived.Deep.RegionHeld3
import Derived.BigCall
import Derived.RegionTactic
import Derived.ChangeAlike
import Derived.Lib.LazyBuf
import Derived.Laws.MakeOwn
import Derived.Laws.IdiomCopy
import Derived.Deep.DeepCutAuto
import Derived.Deep.AppendLies
import Derived.Maps.OwnSet
import Derived.Maps.OwnIn
import Derived.Sort.KeysCollected
import Derived.Shelf.Strconv.Clone
import Derived.Ground.NamesProg
import Derived.Test.YtafkccdbnfelkaaDoorProg
/- A row of 64 bytes of the call's own; the program's put. -/
namespace Go.Proofs.YtafkccdbnfelkaaDoor
open Go.RowKit Go.MapKept
namespace Ent

/-- 64 bytes in block g -/
def Row (w : World) (g : Nat) (f : Nat → Nat) : Prop := w.rowIs g 5 64 (fun i => Value.int .u8 ((f i : Nat) : Int))
/-- a list by its places -/
def at' (l : List Nat) (i : Nat) : Nat := l[i]?.getD 0

theorem Row.lt {w : World} {g : Nat} {f : Nat → Nat} (h : Row w g f) : g < w.heap.size := World.rowIs.lt h
theorem Row.keep {w w' : World} {g : Nat} {f : Nat → Nat} (h : Row w g f) (hb : Below w.heap.size w w') : Row w' g f := World.rowIs.of_block h (hb.block _ h.lt)
theorem Row.keepN {w w' : World} {g N : Nat} {f : Nat → Nat} (h : Row w g f) (hb : Below N w w') (hN : g < N) : Row w' g f := World.rowIs.of_block h (hb.block _ hN)
theorem Row.drew {w : World} {g : Nat} {f : Nat → Nat} (h : Row w g f) : Row w.drew g f := h
theorem Row.alloc {w : World} {g : Nat} {f : Nat → Nat} (h : Row w g f) (o : Obj) : Row (w.alloc o) g f := World.rowIs.alloc h o
theorem Row.cell {w : World} {g : Nat} {f : Nat → Nat} (h : Row w g f) {i : Nat} (hi : i < 64) : w.cell? ⟨g, i, none⟩ = some (.int .u8 ((f i : Nat) : Int)) := World.rowIs.cell h hi
theorem Row.frozen {w : World} {g : Nat} {f : Nat → Nat} (h : Row w g f) (i : Nat) : w.frozen? ⟨g, i, none⟩ = false := World.rowIs.frozen h i
theorem Row.congr {w : World} {g : Nat} {f f' : Nat → Nat} (h : Row w g f) (e : ∀ i, i < 64 → f i = f' i) : Row w g f' := World.rowIs.congr h (fun i hi => by rw [e i hi])
theorem Row.set {w : World} {g : Nat} {f : Nat → Nat} (h : Row w g f) (j x : Nat) : Row (w.setCell ⟨g, j, none⟩ (.int .u8 (x : Int))) g (fun i => if i = j then x else f i) :=
  World.rowIs.congr (World.rowIs.set h j (.int .u8 (x : Int))) (fun i _ => by by_cases e : i = j <;> simp [e])
theorem Row.bts {w : World} {g : Nat} {f : Nat → Nat} (h : Row w g f) (o : Nat) (l : List Nat) (hl : Crc.Byt l) (ho : o + l.length ≤ 64) (e : ∀ j (hj : j < l.length), f (o + j) = l[j]) : Crc.Bts w (some ⟨g, o, none⟩) l :=
  ⟨hl, by omega, fun j hj => ⟨g, o, rfl, h.lt, by rw [h.cell (by omega), e j hj]⟩⟩

/-- a number's bytes laid from place o on -/
def putf (f : Nat → Nat) (o x n : Nat) (i : Nat) : Nat := if o ≤ i ∧ i < o + n then x / 256 ^ (i - o) % 256 else f i
theorem putf_zero (f : Nat → Nat) (o x : Nat) : putf f o x 0 = f := by
  funext i
  unfold putf
  rw [if_neg (by omega)]
theorem putf_next (f : Nat → Nat) (o x n : Nat) (i : Nat) : (if i = o + n then x / 256 ^ n % 256 else putf f o x n i) = putf f o x (n + 1) i := by
  unfold putf
  by_cases h : i = o + n
  · subst h
    rw [if_pos rfl, if_pos (by omega)]
    congr 3
    omega
  · rw [if_neg h]
    by_cases h1 : o ≤ i ∧ i < o + n
    · rw [if_pos h1, if_pos (by omega)]
    · rw [if_neg h1, if_neg (by omega)]

set_option maxHeartbeats 1000000 in
theorem put_any (w : World) (g o n c x : Nat) (f : Nat → Nat) (h : Row w g f) (ho : o + n ≤ 64) (hx : x < 4294967296) (hn : n ≤ 4) :
    Calls Tryd.prog 37 #[.slice (some ⟨g, o, none⟩) n c, .int .u32 (x : Int)] w fun r w' => r = .returned (.tuple #[]) ∧ Row w' g (putf f o x n) ∧ Below g w w' := by
  have H := Lib.hid h
  clear h
  go_enter Tryd.func37, Tryd.ntmps37
  go_wp2
  go_loopw [7] (fun i wr => ∃ m : Nat, m ≤ n ∧ i = .int .i64 (m : Int) ∧ Row wr g (putf f o x m) ∧ Below g w wr) (fun i _ => n - (intOf i).toNat)
  case atStart => exact ⟨0, Nat.zero_le _, rfl, by rw [putf_zero]; exact H.out, Below.refl _ _⟩
  case round =>
    obtain ⟨m, hm, rfl, hr, hb⟩ := hrel
    have HR := Lib.hid hr
    have HB := Lib.hid hb
    clear hr hb
    by_cases hlt : m < n
    · have hc := HR.out.cell (i := o + m) (by omega)
      have hf := HR.out.frozen (o + m)
      have hsh : (x : Int) / 2 ^ (m * 8) = ((x / 256 ^ m : Nat) : Int) := by
        have : 256 ^ m = 2 ^ (m * 8) := by rw [Nat.mul_comm m 8, Nat.pow_mul]
        rw [this]
        simp
      have hyl : x / 256 ^ m < 4294967296 := Nat.lt_of_le_of_lt (Nat.div_le_self _ _) hx
      have HN := Lib.hid ((HR.out.set (o + m) (x / 256 ^ m % 256)).congr (fun i _ => putf_next f o x m i))
      have HBN := Lib.hid (HB.out.setCell (p := ⟨g, o + m, none⟩) (Nat.le_refl _) (.int .u8 ((x / 256 ^ m % 256 : Nat) : Int)))
      generalize x / 256 ^ m = y at *
      go_wp2
      exact ⟨⟨m + 1, by omega, by go_num, HN.out, HBN.out⟩, by simp [intOf]; omega⟩
    · obtain rfl : m = n := by omega
      go_wp2
      go_end0
      exact ⟨rfl, HR.out, HB.out⟩
end Ent
end Go.Proofs.YtafkccdbnfelkaaDoor
/- Encode, walked. -/
namespace Go.Proofs.YtafkccdbnfelkaaDoor
open Go.RowKit Go.MapKept
namespace Ent

theorem get_new {w : World} {o : Obj} {k : Nat} (h : k = w.heap.size) : (w.alloc o).heap[k]? = some o := by
  subst h
  show (w.heap.push o)[w.heap.size]? = _
  simp
theorem get_old {w : World} {o x : Obj} {k : Nat} (h : w.heap[k]? = some x) : (w.alloc o).heap[k]? = some x := (Below.heap_alloc w o k (Array.getElem?_eq_some_iff.1 h).1).trans h
theorem get_drew {w : World} {x : Obj} {k : Nat} (h : w.heap[k]? = some x) : w.drew.heap[k]? = some x := h
theorem pts_at1 {W : World} {k n0 c0 : Nat} {t : TypeId} {A0 : Option Addr} {l0 : List Nat} (hk : W.heap[k]? = some (.cells #[.slice A0 n0 c0] t)) (h0 : Crc.Bts W A0 l0) (e0 : n0 = l0.length) : Crc.Pts W (some ⟨k, 0, none⟩) [⟨A0, c0, l0⟩] := by
  subst e0
  exact ⟨by simp, fun i hi => ⟨k, 0, rfl, (Array.getElem?_eq_some_iff.1 hk).1, by
    obtain rfl : i = 0 := by simpa using hi
    unfold World.cell?
    rw [hk]
    rfl⟩, fun i hi => by
    obtain rfl : i = 0 := by simpa using hi
    exact h0⟩
theorem sum32_at1 {W : World} {k n0 c0 cc : Nat} {t : TypeId} {A0 : Option Addr} {l : List Nat} (hk : W.heap[k]? = some (.cells #[.slice A0 n0 c0] t)) (h0 : Crc.Bts W A0 l) (e0 : n0 = l.length) :
    Calls Tryd.prog 38 #[.slice (some ⟨k, 0, none⟩) 1 cc] W fun e w' => e = .returned (.int .u32 (Crc.S32 l : Nat)) ∧ W = w' := by
  have := Crc.sum32_any _ cc _ (pts_at1 hk h0 e0)
  rw [Crc.flat_one] at this
  exact this

theorem below_alloc {w W : World} {o : Obj} (h : Below w.heap.size w W) : Below w.heap.size w (W.alloc o) := h.alloc h.size o

theorem encode_no (w : World) (s : ByteArray) (i : Int) (hs : s.size ≤ 9223372036854775807) (hm : may (Crc.tx s) i = false) :
    Calls Tryd.prog 30 #[.agg #[.string s, .int .i64 i]] w fun r w' => r = .returned (.tuple #[.slice none 0 0, .int .i64 1]) ∧ Below w.heap.size w w' := by
  have HM := Lib.hid (fun w => may_any w s i hs)
  have HE := Lib.hid hm
  clear hm
  have HB := Lib.hid ((Below.refl w.heap.size w).alloc (Nat.le_refl _) (.cells #[.string s, .int .i64 i] 61))
  go_enter Tryd.func30, Tryd.ntmps30
  go_wp2_with fail
  refine (HM.out _).mono ?_
  rintro e w' ⟨rfl, hb⟩
  rw [HE.out]
  have HB1 := Lib.hid (HB.out.trans (hb.mono HB.out.size))
  clear hb
  go_wp2
  go_ret2
  exact ⟨rfl, HB1.out⟩

/-- the bytes as they are laid, one after the other -/
def f1 (k : Nat) : Nat → Nat := putf (fun _ => 0) 0 k 2
def f2 (k n : Nat) (i : Nat) : Nat := if i = 2 then n else f1 k i
def f3 (l : List Nat) (k : Nat) (i : Nat) : Nat := if 4 ≤ i ∧ i < 4 + l.length then at' l (i - 4) else f2 k l.length i

theorem f3_front {l : List Nat} {k : Nat} (i : Nat) (hi : i < 60) : f3 l k i = at' (front l k) i := by
  unfold f3 f2 f1 putf at' front
  match i, hi with
  | 0, _ => simp
  | 1, _ => simp
  | 2, _ => simp
  | 3, _ => simp
  | i + 4, hi =>
    simp only [List.cons_append, List.nil_append, List.getElem?_cons_succ]
    by_cases h : i < l.length
    · rw [if_pos (by omega), List.getElem?_append_left h, show i + 4 - 4 = i by omega]
    · rw [if_neg (by omega), if_neg (by omega), if_neg (by omega), List.getElem?_append_right (by omega)]
      rw [List.getElem?_replicate]
      split <;> rfl
theorem f4_enc {l : List Nat} {k : Nat} (hl : l.length ≤ 48) (i : Nat) (hi : i < 64) : putf (f3 l k) 60 (Crc.S32 (front l k)) 4 i = at' (enc l k) i := by
  have hfl := front_len hl k
  unfold enc at'
  by_cases h : i < 60
  · rw [List.getElem?_append_left (by omega)]
    unfold putf
    rw [if_neg (by omega)]
    exact f3_front i h
  · rw [List.getElem?_append_right (by omega), hfl]
    generalize Crc.S32 (front l k) = x
    unfold putf q4
    have : i = 60 ∨ i = 61 ∨ i = 62 ∨ i = 63 := by omega
    rcases this with rfl | rfl | rfl | rfl <;> simp
theorem copy_f3 {s : ByteArray} {k : Nat} (j : Nat) : (if 4 ≤ j ∧ j < 4 + (s.data.toList.map fun x : UInt8 => Value.int .u8 (x.toNat : Int)).length then (s.data.toList.map fun x : UInt8 => Value.int .u8 (x.toNat : Int))[j - 4]?.getD default else Value.int .u8 ((f2 k (Crc.tx s).length j : Nat) : Int)) = Value.int .u8 ((f3 (Crc.tx s) k j : Nat) : Int) := by
  have e : (s.data.toList.map fun x : UInt8 => Value.int .u8 (x.toNat : Int)) = (Crc.tx s).map fun b : Nat => Value.int .u8 (b : Int) := by
    unfold Crc.tx
    rw [List.map_map]
    rfl
  rw [e, List.length_map]
  unfold f3
  by_cases h : 4 ≤ j ∧ j < 4 + (Crc.tx s).length
  · rw [if_pos h, if_pos h, List.getElem?_map]
    unfold at'
    rw [List.getElem?_eq_getElem (show j - 4 < (Crc.tx s).length by omega)]
    rfl
  · rw [if_neg h, if_neg h]

theorem size_u8 (W : World) : (Go.sizeOf 5).run Tryd.prog W = .ok 1 W := by kernel_rfl

set_option maxHeartbeats 4000000 in
set_option maxRecDepth 100000 in
theorem encode_yes (w : World) (s : ByteArray) (k : Nat) (hm : may (Crc.tx s) (k : Int) = true) :
    Calls Tryd.prog 30 #[.agg #[.string s, .int .i64 (k : Int)]] w fun r w' => ∃ g : Nat, w.heap.size ≤ g ∧ r = .returned (.tuple #[.slice (some ⟨g, 0, none⟩) 64 64, .int .i64 0]) ∧ Row w' g (at' (enc (Crc.tx s) k)) ∧ Below w.heap.size w w' := by
  have hl := may_len hm
  obtain ⟨k', ek, hk⟩ := may_nat hm
  obtain rfl : k = k' := by omega
  have hsz : s.size ≤ 48 := by rw [Crc.tx_len] at hl; exact hl
  have hfb := front_byt (Crc.tx_byt s) hl k
  have hfl := front_len hl k
  have HFB := Lib.hid hfb
  have HFL := Lib.hid hfl.symm
  have HL := Lib.hid hl
  have HM := Lib.hid (fun w => may_any w s (k : Int) (by omega))
  have HE := Lib.hid hm
  clear hm hl hfb hfl ek
  have HB := Lib.hid ((Below.refl w.heap.size w).alloc (Nat.le_refl _) (.cells #[.string s, .int .i64 (k : Int)] 61))
  have HX := Lib.hid (boxed w s k 61)
  go_enter Tryd.func30, Tryd.ntmps30
  go_wp2_with fail
  refine (HM.out _).mono ?_
  rintro e w1 ⟨rfl, hb⟩
  rw [HE.out]
  have HB1 := Lib.hid (HB.out.trans (hb.mono HB.out.size))
  have HX1 := Lib.hid (HX.out.keep hb)
  have hz1 : w.heap.size < w1.heap.size := HX1.out.lt
  clear hb HX HB
  have hmk := run_make_row' (P := Tryd.prog) 23 5 _ 1 Tryd.underlying23 Crc.u8_info rfl .i64 .i64 64 (by omega) (by omega) w1
  rw [show ((64 : Nat) : Int) = 64 from rfl] at hmk
  have hb2 := (Below.refl w1.heap.size w1).alloc (Nat.le_refl _) (.cells (madeCells #[.int .u8 0] 64) 5)
  have HR2 := Lib.hid (show Row (w1.alloc (.cells (madeCells #[.int .u8 0] 64) 5)) w1.heap.size (fun _ => 0) from World.rowIs_made w1 (.int .u8 0) 64 5)
  have HX2 := Lib.hid (HX1.out.keep hb2)
  have HB2 := Lib.hid (HB1.out.trans (hb2.mono HB1.out.size))
  clear hb2 HX1 HB1
  go_wp2
  generalize w1.alloc (.cells (madeCells #[.int .u8 0] 64) 5) = w2 at *
  generalize w1.heap.size = g at *
  clear hmk
  have hc1 := HX2.out.c1
  have hz2 : w.heap.size < w2.heap.size := HX2.out.lt
  have hkw : IntKind.wrap .u32 (k : Int) = (k : Int) := by rw [IntKind.wrap_u32']; omega
  go_region_held3 (fun W' => W'.cell? ⟨w.heap.size, 1, none⟩ = some (.int .i64 (k : Int))) (go_keep)
    (first
    | (go_at_call 37
       with_reducible refine (put_any _ g 0 2 64 k _ HR2.out.drew (by omega) (by omega) (by omega)).mono ?_
       rintro e w3 ⟨rfl, hr, hb⟩
       have HR3 := Lib.hid hr
       have HB3 := Lib.hid (HB2.out.drew.trans (hb.mono (Nat.le_of_lt hz1)))
       have HX3 := Lib.hid (HX2.out.drew.keepN hb hz1)
       have hk1 := HX3.out.c1
       clear hb hr))
  clear hkw hc1 hk1 HR2 HX2 HB2 hz2
  have hc0 := HX3.out.c0
  have hr2 := HR3.out.cell (i := 2) (by omega)
  have hf2 := HR3.out.frozen 2
  have hsm : (s.size : Int) % 256 = (s.size : Int) := by omega
  have HR4 := Lib.hid (show Row (w3.setCell ⟨g, 2, none⟩ (.int .u8 (s.size : Int))) g (f2 k (Crc.tx s).length) from (HR3.out.set 2 s.size).congr (fun i _ => by unfold f2 f1; rw [Crc.tx_len]))
  have HB4 := Lib.hid (HB3.out.setCell (p := ⟨g, 2, none⟩) (Nat.le_of_lt hz1) (.int .u8 (s.size : Int)))
  have hb4 := (Below.refl g w3).setCell (p := ⟨g, 2, none⟩) (Nat.le_refl _) (.int .u8 (s.size : Int))
  have HX4 := Lib.hid (HX3.out.keepN hb4 hz1)
  clear hb4 HR3 HB3
  go_wp2
  generalize w3.setCell ⟨g, 2, none⟩ (.int .u8 (s.size : Int)) = w4 at *
  clear hc0 hr2 hf2 hsm HX3
  have hc0 := HX4.out.c0
  have hcp := run_copy_string (P := Tryd.prog) w4.drew 23 9 3 5 g 4 60 60 s Tryd.underlying23 size_u8 (by omega) (fun j hj => by rw [HR4.out.drew.cell (by omega)]; rfl) (fun j hj => HR4.out.drew.frozen _)
  have HR5 := Lib.hid (show Row (w4.drew.setCells g 4 (s.data.toList.map fun x : UInt8 => Value.int .u8 (x.toNat : Int))) g (f3 (Crc.tx s) k) from (rowIs_setCells (s.data.toList.map fun x : UInt8 => Value.int .u8 (x.toNat : Int)) 4 w4.drew _ HR4.out.drew).congr (fun j _ => copy_f3 j))
  have HB5 := Lib.hid (below_setCells (b := g) (Nat.le_of_lt hz1) (s.data.toList.map fun x : UInt8 => Value.int .u8 (x.toNat : Int)) 4 _ HB4.out.drew)
  generalize w4.drew.setCells g 4 (s.data.toList.map fun x : UInt8 => Value.int .u8 (x.toNat : Int)) = w5 at *
  go_region
  go_wp2
  clear hcp hc0 HR4 HB4 HX4
  have HBT := Lib.hid (fun (W : World) (h : Row W g (f3 (Crc.tx s) k)) => h.bts 0 (front (Crc.tx s) k) HFB.out (by rw [← HFL.out]; omega) (fun j hj => by
    rw [Nat.zero_add, f3_front j (by rw [← HFL.out] at hj; exact hj)]
    unfold at'
    rw [List.getElem?_eq_getElem hj]
    rfl))
  have HS := Lib.hid (s32_lt (front (Crc.tx s) k))
  go_region_held3 (fun _ => True) (exact trivial) (first
    | (go_at_call 38
       with_reducible refine (sum32_at1 (l := front (Crc.tx s) k) (t := 23) (A0 := some ⟨g, 0, none⟩) (n0 := 60) (c0 := 64) ?_ ?_ HFL.out).mono ?_
       · repeat (first | (with_reducible refine get_new ?_; simp; done) | with_reducible refine get_drew ?_ | with_reducible refine get_old ?_)
       · refine HBT.out _ ?_
         repeat (first | with_reducible exact HR5.out | with_reducible refine Row.drew ?_ | with_reducible refine Row.alloc ?_ _)
       rintro e w' ⟨rfl, rfl⟩)
    | (go_at_call 37
       with_reducible refine (put_any _ g 60 4 4 (Crc.S32 (front (Crc.tx s) k)) (f3 (Crc.tx s) k) ?_ (by omega) HS.out (by omega)).mono ?_
       · repeat (first | with_reducible exact HR5.out | with_reducible refine Row.drew ?_ | with_reducible refine Row.alloc ?_ _)
       rintro e w6 ⟨rfl, hr, hb⟩
       have HR6 := Lib.hid hr
       have HB6 := Lib.hid hb
       clear hb hr))
  go_wp2
  go_ret2
  refine ⟨g, Nat.le_of_lt hz1, rfl, HR6.out.congr (fun i hi => f4_enc HL.out i hi), ?_⟩
  refine Below.trans ?_ (HB6.out.mono (Nat.le_of_lt hz1))
  repeat (first | with_reducible exact HB5.out | with_reducible refine Below.drew ?_ | with_reducible refine below_alloc ?_)
end Ent
end Go.Proofs.YtafkccdbnfelkaaDoor
/- Decode, walked. -/
namespace Go.Proofs.YtafkccdbnfelkaaDoor
open Go.RowKit Go.MapKept
namespace Ent

/-- an entry, zero if there is none -/
def gv : Option (List Nat × Nat) → Value
  | some (l, k) => .agg #[.string (Crc.str l), .int .i64 (k : Int)]
  | none => .agg #[.string ⟨#[]⟩, .int .i64 0]
/-- the error -/
def ev : Option (List Nat × Nat) → Int
  | some _ => 0
  | none => 2

theorem dec_len {l : List Nat} (h : l.length ≠ 64) : dec l = none := by
  unfold dec
  exact if_neg (fun e => h e.1)
theorem dec_name {l : List Nat} (h : ¬ l[2]?.getD 0 ≤ 48) : dec l = none := by
  unfold dec
  exact if_neg (fun e => h e.2.1)

/-- 64 bytes lie there, of at least so much room -/
structure At64 (w : World) (b o : Nat) (l : List Nat) : Prop where
  bts : Crc.Bts w (some ⟨b, o, none⟩) l
  len : l.length = 64
  lt : b < w.heap.size
theorem At64.cell {w : World} {b o : Nat} {l : List Nat} (h : At64 w b o l) (j : Nat) (hj : j < 64) : w.cell? ⟨b, o + j, none⟩ = some (.int .u8 ((at' l j : Nat) : Int)) := by
  have hl := h.len
  obtain ⟨b', o', e, _, hc⟩ := h.bts.at' j (by omega)
  injection e with e
  injection e with e1 e2
  subst e1 e2
  rw [hc]
  unfold at'
  rw [List.getElem?_eq_getElem (by omega)]
  rfl
theorem At64.keep {w w' : World} {b o : Nat} {l : List Nat} (h : At64 w b o l) (hb : Below w.heap.size w w') : At64 w' b o l := ⟨h.bts.keep hb, h.len, Nat.lt_of_lt_of_le h.lt hb.size⟩
theorem At64.byte {w : World} {b o : Nat} {l : List Nat} (h : At64 w b o l) (j : Nat) : at' l j < 256 := by
  unfold at'
  rcases Nat.lt_or_ge j l.length with h1 | h1
  · rw [List.getElem?_eq_getElem h1]
    exact h.bts.byt _ (List.getElem_mem _)
  · rw [List.getElem?_eq_none h1]
    decide
theorem at64 {w : World} {A : Option Addr} {l : List Nat} (h : Crc.Bts w A l) (hl : l.length = 64) : ∃ b o, A = some ⟨b, o, none⟩ ∧ At64 w b o l := by
  obtain ⟨b, o, rfl, hlt, _⟩ := h.at' 0 (by omega)
  exact ⟨b, o, rfl, h, hl, hlt⟩
theorem At64.name {w : World} {b o : Nat} {l : List Nat} (h : At64 w b o l) : Crc.Bts w (some ⟨b, o + 4, none⟩) (name l) := by
  have hl := h.len
  refine ⟨fun x hx => h.bts.byt x (List.mem_of_mem_drop (List.mem_of_mem_take hx)), ?_, fun j hj => ⟨b, o + 4, rfl, h.lt, ?_⟩⟩
  · unfold Ent.name
    rw [List.length_take, List.length_drop]
    omega
  · have hj' := hj
    unfold Ent.name at hj'
    rw [List.length_take, List.length_drop] at hj'
    have := h.cell (4 + j) (by omega)
    rw [← Nat.add_assoc] at this
    have e : (Ent.name l)[j] = l[4 + j]'(by omega) := by simp only [Ent.name, List.getElem_take, List.getElem_drop]
    rw [this, e]
    unfold at'
    rw [List.getElem?_eq_getElem (by omega)]
    rfl
theorem name_len {l : List Nat} (hl : l.length = 64) (h : at' l 2 ≤ 48) : (name l).length = at' l 2 := by
  unfold name
  rw [List.length_take, List.length_drop]
  unfold at' at h ⊢
  omega

theorem i64_or_nat (a b : Nat) (ha : a < 256) (hb : b < 256) : bits .or .i64 (a : Int) ((b : Int) * 256) = ((a + 256 * b : Nat) : Int) := by
  have hx : a ||| b * 256 = a + 256 * b := by
    have := Nat.shiftLeft_add_eq_or_of_lt (b := a) (i := 8) (show a < 2 ^ 8 from ha) b
    rw [Nat.shiftLeft_eq, show (2 : Nat) ^ 8 = 256 from rfl] at this
    rw [Nat.or_comm]
    omega
  show IntKind.i64.wrap ((BitVec.ofInt 64 (a : Int) ||| BitVec.ofInt 64 ((b : Int) * 256)).toNat : Int) = _
  have e : (b : Int) * 256 = ((b * 256 : Nat) : Int) := by omega
  rw [e, BitVec.toNat_or, ofInt_u64 a (by omega), ofInt_u64 (b * 256) (by omega), hx, IntKind.wrap_i64]
  omega

theorem str_beq {l m : List Nat} (hl : Crc.Byt l) (hm : Crc.Byt m) : ((Crc.str l).toList == (Crc.str m).toList) = decide (l = m) := by
  by_cases h : l = m
  · subst h
    simp
  · rw [decide_eq_false h]
    refine beq_false_of_ne (fun e => h ?_)
    have h1 := Crc.tx_str hl
    have h2 := Crc.tx_str hm
    rw [tx_toList] at h1 h2
    rw [← h1, ← h2, e]

theorem row_enc {W : World} {g : Nat} {l : List Nat} (h : Row W g (at' l)) (hl : l.length = 64) (hb : Crc.Byt l) : Crc.Bts W (some ⟨g, 0, none⟩) l :=
  h.bts 0 l hb (by omega) (fun j hj => by
    rw [Nat.zero_add]
    unfold at'
    rw [List.getElem?_eq_getElem hj]
    rfl)

end Ent
end Go.Proofs.YtafkccdbnfelkaaDoor
/- The document's Encode. -/
namespace Go.Proofs.YtafkccdbnfelkaaDoor
open Go.RowKit Go.MapKept
namespace Ent

theorem tx_append (S T : ByteArray) : Crc.tx (S ++ T) = Crc.tx S ++ Crc.tx T := by
  unfold Crc.tx
  rw [ByteArray.data_append, Array.toList_append, List.map_append]
theorem tx_inj {S T : ByteArray} (h : Crc.tx S = Crc.tx T) : S = T := by rw [← str_tx S, ← str_tx T, h]

theorem bts_one (w : World) (x : Nat) (hx : x < 256) : Crc.Bts (w.alloc (.cells #[.int .u8 (x : Int)] 5)) (some ⟨w.heap.size, 0, none⟩) [x] :=
  ⟨fun y hy => by
    obtain rfl : y = x := by simpa using hy
    exact hx, by simp, fun j hj => ⟨w.heap.size, 0, rfl, by simp, by
    have : j < 1 := hj
    match j, this with
    | 0, _ => exact Crc.alloc_cell _ _ _ _⟩⟩
theorem bts_four (w : World) (x y z u : Nat) (hx : x < 256) (hy : y < 256) (hz : z < 256) (hu : u < 256) : Crc.Bts (w.alloc (.cells #[.int .u8 (x : Int), .int .u8 (y : Int), .int .u8 (z : Int), .int .u8 (u : Int)] 5)) (some ⟨w.heap.size, 0, none⟩) [x, y, z, u] :=
  ⟨fun q hq => by
    simp only [List.mem_cons, List.not_mem_nil, or_false] at hq
    omega, by simp, fun j hj => ⟨w.heap.size, 0, rfl, by simp, by
    have : j < 4 := hj
    match j, this with
    | 0, _ => exact Crc.alloc_cell _ _ _ _
    | 1, _ => exact Crc.alloc_cell _ _ _ _
    | 2, _ => exact Crc.alloc_cell _ _ _ _
    | 3, _ => exact Crc.alloc_cell _ _ _ _⟩⟩
set_option maxRecDepth 100000 in
theorem conv_one (w : World) (x : Nat) (hx : x < 256) : (convert 23 9 (.slice (some ⟨w.heap.size, 0, none⟩) 1 1)).run Tryd.prog (w.alloc (.cells #[.int .u8 (x : Int)] 5)) = .ok (.string (Crc.str [x])) (w.alloc (.cells #[.int .u8 (x : Int)] 5)) := Crc.conv_str 1 (bts_one w x hx)
set_option maxRecDepth 100000 in
theorem conv_four (w : World) (x y z u : Nat) (hx : x < 256) (hy : y < 256) (hz : z < 256) (hu : u < 256) : (convert 23 9 (.slice (some ⟨w.heap.size, 0, none⟩) 4 4)).run Tryd.prog (w.alloc (.cells #[.int .u8 (x : Int), .int .u8 (y : Int), .int .u8 (z : Int), .int .u8 (u : Int)] 5)) = .ok (.string (Crc.str [x, y, z, u])) (w.alloc (.cells #[.int .u8 (x : Int), .int .u8 (y : Int), .int .u8 (z : Int), .int .u8 (u : Int)] 5)) := Crc.conv_str 4 (bts_four w x y z u hx hy hz hu)

theorem byt_zero : Crc.Byt [0] := by
  unfold Crc.Byt
  decide

end Ent
end Go.Proofs.YtafkccdbnfelkaaDoor
/- The document's Decode. -/
namespace Go.Proofs.YtafkccdbnfelkaaDoor
open Go.RowKit Go.MapKept
namespace Ent

/-- is there one? -/
def iv : Option (List Nat × Nat) → Bool
  | some _ => true
  | none => false

theorem tx_extract (s : ByteArray) (a b : Nat) : Crc.tx (s.extract a b) = ((Crc.tx s).drop a).take (b - a) := by
  unfold Crc.tx
  rw [ByteArray.data_extract, Array.toList_extract, List.extract_eq_take_drop, List.map_take, List.map_drop]
theorem tx_at {s : ByteArray} {i : Nat} (h : i < s.size) : at' (Crc.tx s) i = (s[i]'h).toNat := Crc.tx_get h

end Ent
end Go.Proofs.YtafkccdbnfelkaaDoor
/- The chapter's example; entries as they lie; whether they are few. -/
namespace Go.Proofs.YtafkccdbnfelkaaDoor
open Go.RowKit Go.MapKept
namespace Ent

theorem may_ex : may (Crc.tx ⟨#[97, 98]⟩) ((258 : Nat) : Int) = true := by decide +kernel
theorem seven_ex : (enc (Crc.tx ⟨#[97, 98]⟩) 258).take 7 = [2, 1, 2, 0, 97, 98, 0] := by decide +kernel
theorem str_ex : (Crc.str [2, 1, 2, 0, 97, 98, 0]) = ⟨#[2, 1, 2, 0, 97, 98, 0]⟩ := rfl

theorem row_part {W : World} {g : Nat} {l : List Nat} (h : Row W g (at' l)) (hl : l.length = 64) (hb : Crc.Byt l) (n : Nat) : Crc.Bts W (some ⟨g, 0, none⟩) (l.take n) :=
  h.bts 0 (l.take n) (hb.take n) (by rw [List.length_take]; omega) (fun j hj => by
    rw [List.length_take] at hj
    rw [Nat.zero_add, List.getElem_take]
    unfold at'
    rw [List.getElem?_eq_getElem (by omega)]
    rfl)

set_option maxHeartbeats 1000000 in
theorem lives_any (w : World) : Calls Tryd.prog 17 #[] w fun r w' => r = .returned (.bool true) ∧ Below w.heap.size w w' := by
  have HE := Lib.hid (encode_yes w ⟨#[97, 98]⟩ 258 may_ex)
  have HC := Lib.hid Crc.lives_any
  have H48 := Lib.hid (may_len may_ex)
  rw [show ((258 : Nat) : Int) = 258 from rfl] at HE
  go_enter Tryd.func17, Tryd.ntmps17
  go_wp2_with fail
  refine HE.out.mono ?_
  rintro e w1 ⟨g, hg, rfl, hr, hb⟩
  have HR := Lib.hid hr
  have HB := Lib.hid hb
  clear hr hb hg
  go_wp2_with fail
  refine (HC.out _).mono ?_
  rintro e w2 ⟨rfl, hb2⟩
  have HB2 := Lib.hid (HB.out.trans (hb2.mono HB.out.size))
  have hcv := Crc.conv_str 64 (row_part (HR.out.keep hb2) (enc_len H48.out 258) (enc_byt (Crc.tx_byt _) H48.out 258) 7)
  rw [seven_ex, str_ex] at hcv
  rw [show ([2, 1, 2, 0, 97, 98, 0] : List Nat).length = 7 from rfl] at hcv
  clear hb2 HB HR HE
  go_wp2
  go_ret
  exact ⟨rfl, HB2.out⟩

/-- an entry's name and number -/
abbrev En := ByteArray × Int

/-- these entries lie at A -/
structure Es (w : World) (A : Option Addr) (l : List En) : Prop where
  size : ∀ e ∈ l, e.1.size ≤ 9223372036854775807
  len : l.length ≤ 9223372036854775807
  at' : ∀ j (h : j < l.length), ∃ b o, A = some ⟨b, o, none⟩ ∧ b < w.heap.size ∧ w.cell? ⟨b, o + j * 2, none⟩ = some (.string l[j].1) ∧ w.cell? ⟨b, o + j * 2 + 1, none⟩ = some (.int .i64 l[j].2)
theorem Es.keep {w w' : World} {A : Option Addr} {l : List En} (h : Es w A l) (hb : Below w.heap.size w w') : Es w' A l :=
  ⟨h.size, h.len, fun j hj => by
    obtain ⟨b, o, e, hlt, hc, hd⟩ := h.at' j hj
    exact ⟨b, o, e, Nat.lt_of_lt_of_le hlt hb.size, (hb.cell (p := ⟨b, o + j * 2, none⟩) hlt).trans hc, (hb.cell (p := ⟨b, o + j * 2 + 1, none⟩) hlt).trans hd⟩⟩
theorem Es.drew {w : World} {A : Option Addr} {l : List En} (h : Es w A l) : Es w.drew A l := h.keep (Below.refl _ _).drew
theorem es_one (w : World) (s : ByteArray) (i : Int) (t : TypeId) (hs : s.size ≤ 9223372036854775807) : Es (w.alloc (.cells #[.string s, .int .i64 i] t)) (some ⟨w.heap.size, 0, none⟩) [(s, i)] :=
  ⟨fun e he => by
    obtain rfl : e = (s, i) := by simpa using he
    exact hs, by simp, fun j hj => by
    have : j < 1 := hj
    match j, this with
    | 0, _ => exact ⟨w.heap.size, 0, rfl, by simp, Crc.alloc_cell _ _ _ _, Crc.alloc_cell _ _ _ _⟩⟩

/-- few, and short -/
def Few (l : List En) : Prop := (∀ e ∈ l, e.1.size ≤ 100) ∧ l.length ≤ 40
instance (l : List En) : Decidable (Few l) := by unfold Few; infer_instance
def few (l : List En) : Bool := decide (Few l)

end Ent
end Go.Proofs.YtafkccdbnfelkaaDoor
/- The chapter's example. -/
namespace Go.Proofs.YtafkccdbnfelkaaDoor
open Go.RowKit Go.MapKept Go.Shelf
namespace Pat

theorem ex_yes : spl ⟨#[47, 97, 47, 98]⟩ = some [⟨#[97]⟩, ⟨#[98]⟩] := by decide +kernel
theorem ex_no : spl ⟨#[47, 97, 47]⟩ = none := by decide +kernel
theorem split_yes (w : World) : Calls Tryd.prog 16 #[.string ⟨#[47, 97, 47, 98]⟩] w fun e w' => ∃ A c, e = .returned (.tuple #[.slice A 2 c, .int .i64 0]) ∧ Txs w' A [⟨#[97]⟩, ⟨#[98]⟩] ∧ Below w.heap.size w w' :=
  (split_any w _ (by decide)).mono fun e w' ⟨hb, h⟩ => by
    rcases h with ⟨l, A, c, hs, he, _, ht⟩ | ⟨hs, _⟩
    · rw [ex_yes] at hs
      injection hs with hs
      subst hs
      exact ⟨A, c, he, ht, hb⟩
    · rw [ex_yes] at hs
      cases hs
theorem split_no (w : World) : Calls Tryd.prog 16 #[.string ⟨#[47, 97, 47]⟩] w fun e w' => e = .returned (.tuple #[.slice none 0 0, .int .i64 3]) ∧ Below w.heap.size w w' :=
  (split_any w _ (by decide)).mono fun e w' ⟨hb, h⟩ => by
    rcases h with ⟨l, A, c, hs, _⟩ | ⟨_, he⟩
    · rw [ex_no] at hs
      cases hs
    · exact ⟨he, hb⟩

set_option maxRecDepth 100000 in
set_option maxHeartbeats 1000000 in
theorem lives_any (w : World) : Calls Tryd.prog 9 #[] w fun e w' => e = .returned (.bool true) ∧ Below w.heap.size w w' := by
  have H1 := Lib.hid split_yes
  have H2 := Lib.hid split_no
  have H3 := Lib.hid Ent.lives_any
  go_enter Tryd.func9, Tryd.ntmps9
  go_wp2_with fail
  refine (H1.out _).mono ?_
  rintro e w1 ⟨A, c, rfl, ht, hb⟩
  have HT := Lib.hid ht
  have HB := Lib.hid hb
  clear ht hb
  go_wp2_with fail
  refine (H2.out _).mono ?_
  rintro e w2 ⟨rfl, hb2⟩
  have HT2 := Lib.hid (HT.out.keep hb2)
  have HB2 := Lib.hid (HB.out.trans (hb2.mono HB.out.size))
  clear hb2
  go_wp2_with fail
  refine (H3.out _).mono ?_
  rintro e w3 ⟨rfl, hb3⟩
  have hb3' := HB2.out.trans (hb3.mono HB2.out.size)
  have HB3 := Lib.hid hb3'
  obtain ⟨b, o, rfl, _, hc0⟩ := (HT2.out.keep hb3).at' 0 (by decide)
  obtain ⟨b', o', e, _, hc1⟩ := (HT2.out.keep hb3).at' 1 (by decide)
  injection e with e
  injection e with e1 e2
  subst e1 e2
  simp only [List.getElem_cons_zero, List.getElem_cons_succ, Nat.add_zero] at hc0 hc1
  clear hb3 hb3'
  go_wp2
  go_ret
  exact ⟨rfl, HB3.out⟩
end Pat
end Go.Proofs.YtafkccdbnfelkaaDoor
/- A path's parent: a row of the call's own. -/
namespace Go.Proofs.YtafkccdbnfelkaaDoor
open Go.RowKit Go.MapKept Go.Lib
namespace Pat

/-- a row of names of the call's own, in block g -/
def Own (w : World) (g : Nat) (l : List ByteArray) : Prop := w.rowIs g 9 l.length (fun i => .string (l.getD i ByteArray.empty))
theorem Own.txs {w : World} {g : Nat} {l : List ByteArray} (h : Own w g l) (hs : ∀ s ∈ l, s.size ≤ 9223372036854775807) (hl : l.length ≤ 9223372036854775807) : Txs w (some ⟨g, 0, none⟩) l :=
  ⟨hs, hl, fun j hj => ⟨g, 0, rfl, World.rowIs.lt h, by
    rw [Nat.zero_add, World.rowIs.cell h hj, List.getD_eq_getElem?_getD, List.getElem?_eq_getElem hj, Option.getD_some]⟩⟩
theorem Own.keep {w w' : World} {g N : Nat} {l : List ByteArray} (h : Own w g l) (hb : Below N w w') (hg : g < N) : Own w' g l := World.rowIs.of_block h (hb.block g hg)
theorem Own.set {w : World} {g : Nat} {l : List ByteArray} (h : Own w g l) (k : Nat) (s : ByteArray) : Own (w.setCell ⟨g, k, none⟩ (.string s)) g (l.set k s) := by
  have h1 := World.rowIs.set h k (.string s)
  unfold Own
  rw [List.length_set]
  refine h1.congr (fun j hj => ?_)
  by_cases e : j = k
  · subst e
    rw [if_pos rfl, List.getD_eq_getElem?_getD, List.getElem?_set_self hj, Option.getD_some]
  · rw [if_neg e, List.getD_eq_getElem?_getD, List.getD_eq_getElem?_getD, List.getElem?_set_ne (fun h => e h.symm)]

theorem kid_at {m : List ByteArray} {s : ByteArray} : (m ++ [s])[m.length]'(by simp) = s := by simp

set_option maxRecDepth 100000 in
set_option maxHeartbeats 1000000 in
theorem parent_yes (w : World) (A : Option Addr) (c n k : Nat) (m : List ByteArray) (s : ByteArray) (h : Txs w A (m ++ [s])) (hk : m.length = k) (hn : n = k + 1) (hm : k ≤ 1000000) :
    Calls Tryd.prog 20 #[.slice A n c] w fun e w' => ∃ g, e = .returned (.tuple #[.slice (some ⟨g, 0, none⟩) k k, .string s, .bool true]) ∧ w.heap.size ≤ g ∧ Own w' g m ∧ Below w.heap.size w w' := by
  subst hk
  have hmk := run_make_row' (P := Tryd.prog) 44 9 _ 16 Tryd.underlying44 str_info rfl .i64 .i64 m.length (by omega) (by omega) w
  have hr1 := World.rowIs_made w (.string ByteArray.empty) m.length 9
  have hb1 := (Below.refl w.heap.size w).alloc (Nat.le_refl _) (.cells (madeCells #[.string ByteArray.empty] m.length) 9)
  obtain ⟨b, o, hA, hlt, hc⟩ := h.at' m.length (by simp)
  rw [kid_at] at hc
  subst hA
  have hcp := run_copy_cells (P := Tryd.prog) (w.alloc (.cells (madeCells #[.string ByteArray.empty] m.length) 9)) 44 44 3 9 w.heap.size 0 m.length m.length ⟨b, o, none⟩ n c (strs m)
    Tryd.underlying44 (by kernel_rfl) (by rw [hn]; simp [strs])
    (fun j v hj => by
      have hjl : j < m.length := by
        have := (List.getElem?_eq_some_iff.1 hj).1
        simpa [strs] using this
      obtain ⟨b', o', e, hlt', hc'⟩ := (h.alloc (.cells (madeCells #[.string ByteArray.empty] m.length) 9)).at' j (by simp; omega)
      injection e with e
      injection e with e1 e2
      subst e1 e2
      rw [Go.WideShapes.add_plain, hc', ← hj]
      simp [strs, List.getElem_append_left hjl, List.getElem?_eq_getElem hjl])
    (fun j hj => by
      have hjl : j < m.length := by simpa [strs] using hj
      rw [Nat.zero_add, hr1.cell hjl]; rfl)
    (fun j hj => hr1.frozen _) (strs_one m)
  have hr2 : Own ((w.alloc (.cells (madeCells #[.string ByteArray.empty] m.length) 9)).setCells w.heap.size 0 (strs m)) w.heap.size m :=
    (rowIs_setCells (strs m) 0 (w.alloc (.cells (madeCells #[.string ByteArray.empty] m.length) 9)) _ hr1).congr (fun j hj => by
      rw [if_pos ⟨Nat.zero_le _, by simpa [strs] using hj⟩]
      simp [strs, List.getElem?_eq_getElem hj])
  have hb2 := below_setCells (b := w.heap.size) (Nat.le_refl _) (strs m) 0 _ hb1
  have hcw := (hb2.cell (p := ⟨b, o + m.length, none⟩) hlt).trans hc
  have hlen : (strs m).length = m.length := by simp [strs]
  rw [hlen] at hcp
  have HO := Lib.hid hr2
  have HB := Lib.hid hb2
  have hsub : (n : Int) - 1 = (m.length : Int) := by omega
  have hn0 : ((n : Int) == 0) = false := beq_eq_false_iff_ne.2 (by omega)
  have hn1 : ¬ (n : Int) = 0 := by omega
  have hi0 : (0 : Int) ≤ (m.length : Int) := by omega
  have hi1 : (m.length : Int) < (n : Int) := by omega
  clear h hr1 hr2 hb1 hb2 hn hlen hc
  generalize w.heap.size = g at *
  generalize w.alloc (.cells (madeCells #[.string ByteArray.empty] m.length) 9) = w1 at *
  generalize w1.setCells g 0 (strs m) = w2 at *
  go_enter Tryd.func20, Tryd.ntmps20
  go_wp2
  go_quiet (fail)
  go_wp2
  refine bodyPost_ret (v := .tuple #[.slice (some ⟨g, 0, none⟩) m.length m.length, .string s, .bool true]) ?_ rfl ⟨g, rfl, Nat.le_refl _, HO.out, below_drewN HB.out _⟩
  simp [results, Tryd.results20, go_sem]

set_option maxHeartbeats 1000000 in
theorem parent_no (w : World) (A : Option Addr) (c : Nat) :
    Calls Tryd.prog 20 #[.slice A 0 c] w fun e w' => e = .returned (.tuple #[.slice none 0 0, .string ByteArray.empty, .bool false]) ∧ w' = w := by
  go_enter Tryd.func20, Tryd.ntmps20
  go_wp2
  refine bodyPost_ret (v := .tuple #[.slice none 0 0, .string ByteArray.empty, .bool false]) ?_ rfl ⟨rfl, rfl⟩
  simp [results, Tryd.results20, go_sem]
  rfl
end Pat
end Go.Proofs.YtafkccdbnfelkaaDoor
/- The law of a path's parent. -/
namespace Go.Proofs.YtafkccdbnfelkaaDoor
open Go.RowKit Go.MapKept Go.Shelf
namespace Pat

theorem Txs.left {w : World} {A : Option Addr} {m r : List ByteArray} (h : Txs w A (m ++ r)) : Txs w A m := by
  have := h.take m.length
  rwa [List.take_left] at this

theorem mark_ok (w : World) (g k : Nat) (l : List ByteArray) (h : Own w g l) (hk : k < l.length) : (∃ u, w.cell? ⟨g, k, none⟩ = some (.string u)) ∧ w.frozen? ⟨g, k, none⟩ = false :=
  ⟨⟨_, World.rowIs.cell h hk⟩, World.rowIs.frozen h k⟩

end Pat
end Go.Proofs.YtafkccdbnfelkaaDoor
/- A path with one name more: a copy and a name behind it. -/
namespace Go.Proofs.YtafkccdbnfelkaaDoor
open Go.RowKit Go.MapKept Go.Shelf
namespace Pat

theorem row_cap {W : World} {B n c : Nat} {e : TypeId} {s : Nat} {G : Option Addr} {xs : List Value} (h : W.ownsRow B e s (.slice G n c) n xs) : n ≤ c := by
  rcases h.2 with ⟨e, h0⟩ | ⟨g, cap, cur, e, _, _, hc, _⟩
  · omega
  · injection e with _ _ e
    omega
/-- a copy of names, a row of the call's own -/
theorem copy_row {W : World} {A : Option Addr} {l : List ByteArray} (c : Nat) (h : Txs W A l) (hA : A = none → c = 0) (hl : l.length ≤ 1000000) :
    ∃ (G : Option Addr) (gc : Nat) (w' : World), (Builtin.append_ #[44, 44] 44 #[.slice (some ⟨W.heap.size, 0, none⟩) 0 0, .slice A l.length c]).run Tryd.prog (W.alloc (.cells #[] 9)) = .ok (.slice G l.length gc) w' ∧ w'.ownsRow W.heap.size 9 1 (.slice G l.length gc) l.length (strs l) ∧ Below W.heap.size W w' := by
  obtain ⟨i0, hi0, hz0, hz1, hz2⟩ := info_parts str_info
  have hown : (W.alloc (.cells #[] 9)).ownsRow W.heap.size 9 1 (.slice (some ⟨W.heap.size, 0, none⟩) 0 0) 0 [] := World.ownsRow_made W #[] 0 (Nat.le_refl _) (by unfold maxLen; omega) rfl
  have hb := (Below.refl W.heap.size W).alloc (Nat.le_refl _) (.cells #[] 9)
  cases A with
  | none =>
    have hl0 : l = [] := by
      cases l with
      | nil => rfl
      | cons b l =>
        obtain ⟨_, _, e, _⟩ := h.at' 0 (by simp)
        cases e
    subst hl0
    rw [hA rfl]
    exact ⟨_, _, _, run_append_owned_none (P := Tryd.prog) _ W.heap.size 44 44 9 i0 1 Tryd.underlying44 hi0 _ 0 [] hown, hown, hb⟩
  | some ad =>
    obtain ⟨v', w', hr, h2, h3, _, _⟩ := run_append_own_at (P := Tryd.prog) (W.alloc (.cells #[] 9)) W.heap.size 44 44 9 i0 (.string ByteArray.empty) 1 16 Tryd.underlying44 hi0 hz0 hz1 hz2 rfl (by decide) _ 0 [] hown ad l.length c (strs l) (by simp [strs]) (txs_news (h.alloc _)) (strs_one l) (by unfold maxLen; omega) (by omega) (by simp)
    rw [Nat.zero_add, List.nil_append] at h2
    obtain ⟨G, gc, rfl⟩ := row_slice h2
    exact ⟨G, gc, w', hr, h2, hb.grown h3 (by simp) (fun k hk => row_base_lt hown hk)⟩

/-- an append whose run is known -/
theorem wpList_append_run {P : Program} {w w' : World} {ops : Array Oper} {rest : List Oper} {o : Oper} {a : Act} {Q : Exit → Act → World → Prop} (hgd : o.guard = none) (s x : Operand) (t : TypeId)
    (ho : o.op = .call { callee := .builtin .append, args := #[s, x], argTypes := #[t, t] }) (v u v' : Value) (hs : a.eval s = v) (hx : a.eval x = u) (hr : (Builtin.append_ #[t, t] o.type #[v, u]).run P w = .ok v' w')
    (h : wpList P ops Q rest (a.put o.dst v') w') : wpList P ops Q (o :: rest) a w := by
  refine wpList_plain hgd fun K hK => ?_
  unfold Oper.wp execOp
  simp only [ho, resolve, invoke, builtin, Sem.run_bind, Sem.run_pure, Result.andThen_ok, List.map_toArray, List.map_cons, List.map_nil, hs, hx, hr]
  exact hK _ _ h

theorem one_new (w : World) (s : ByteArray) (t : TypeId) : ∀ j u, [Value.string s][j]? = some u → (w.alloc (.cells #[.string s] t)).cell? ((⟨w.heap.size, 0, none⟩ : Addr).add j) = some u := by
  intro j u hj
  match j, hj with
  | 0, hj =>
    simp at hj
    subst hj
    simp [Addr.add]

/-- a path, one with one name more, and another one -/
structure Tri (w : World) (A G O : Option Addr) (l kid other : List ByteArray) : Prop where
  l : Txs w A l
  k : Txs w G kid
  o : Txs w O other
theorem Tri.keep {w w' : World} {A G O : Option Addr} {l kid other : List ByteArray} (h : Tri w A G O l kid other) (hb : Below w.heap.size w w') : Tri w' A G O l kid other :=
  ⟨h.l.keep hb, h.k.keep hb, h.o.keep hb⟩
theorem Tri.drewN {w : World} {A G O : Option Addr} {l kid other : List ByteArray} (h : Tri w A G O l kid other) (n : Nat) : Tri (w.drewN n) A G O l kid other :=
  ⟨h.l.drewN n, h.k.drewN n, h.o.drewN n⟩
/-- what whether it is within tells -/
theorem kids_past {l other : List ByteArray} (n : ByteArray) (h : other.take l.length ≠ l) : bef l other = false ∨ (bef l other = true ∧ bef (l ++ [n]) other = true) := by
  by_cases hp : bef l other = true
  · exact .inr ⟨hp, bef_past l other n hp h⟩
  · exact .inl (Bool.eq_false_iff.2 hp)
end Pat
end Go.Proofs.YtafkccdbnfelkaaDoor
/- The document's things as they lie in memory; where one stands. -/
namespace Go.Proofs.YtafkccdbnfelkaaDoor
open Go.RowKit Go.MapKept
namespace Tre
open Pat (Txs)

/-- a thing with where its names lie -/
abbrev Tg := Option Addr × Nat × Th
abbrev ths (l : List Tg) : List Th := l.map (·.2.2)
/-- a thing's three cells -/
abbrev tc (g : Tg) : List Value := [.slice g.1 g.2.2.1.length g.2.1, .bool g.2.2.2.1, .string g.2.2.2.2]
def tcells (l : List Tg) : List Value := l.flatMap tc
theorem tcells_len (l : List Tg) : (tcells l).length = l.length * 3 := by
  induction l with
  | nil => rfl
  | cons f l ih => simp only [tcells, List.flatMap_cons, List.length_append, List.length_cons, List.length_nil] at *; omega
theorem tcells_append (l m : List Tg) : tcells (l ++ m) = tcells l ++ tcells m := by
  unfold tcells
  rw [List.flatMap_append]
theorem tcells_one (l : List Tg) : ∀ u ∈ tcells l, u.oneCell' = true := by
  intro u hu
  obtain ⟨g, _, h⟩ := List.mem_flatMap.1 hu
  simp only [List.mem_cons, List.not_mem_nil, or_false] at h
  rcases h with rfl | rfl | rfl <;> rfl
theorem tcells_get {l : List Tg} : ∀ {j : Nat} (h : j < l.length), (tcells l)[j * 3]? = some (.slice l[j].1 l[j].2.2.1.length l[j].2.1) ∧ (tcells l)[j * 3 + 1]? = some (.bool l[j].2.2.2.1) ∧ (tcells l)[j * 3 + 2]? = some (.string l[j].2.2.2.2) := by
  induction l with
  | nil => intro j h; simp at h
  | cons f l ih =>
    intro j h
    cases j with
    | zero => exact ⟨rfl, rfl, rfl⟩
    | succ j =>
      have := ih (j := j) (by simpa using h)
      have e : (j + 1) * 3 = j * 3 + 1 + 1 + 1 := by omega
      rw [e]
      simpa [tcells] using this

/-- things as they lie -/
structure Ths (w : World) (A : Option Addr) (l : List Tg) : Prop where
  len : l.length ≤ 1000000
  nm : ∀ g ∈ l, Txs w g.1 g.2.2.1 ∧ g.2.2.1.length ≤ g.2.1
  sz : ∀ g ∈ l, g.2.2.2.2.size ≤ 9223372036854775807
  at' : ∀ j (h : j < l.length), ∃ b o, A = some ⟨b, o, none⟩ ∧ b < w.heap.size ∧ w.cell? ⟨b, o + j * 3, none⟩ = some (.slice l[j].1 l[j].2.2.1.length l[j].2.1) ∧ w.cell? ⟨b, o + j * 3 + 1, none⟩ = some (.bool l[j].2.2.2.1) ∧ w.cell? ⟨b, o + j * 3 + 2, none⟩ = some (.string l[j].2.2.2.2)
theorem Ths.keep {w w' : World} {A : Option Addr} {l : List Tg} (h : Ths w A l) (hb : Below w.heap.size w w') : Ths w' A l :=
  ⟨h.len, fun g hg => ⟨(h.nm g hg).1.keep hb, (h.nm g hg).2⟩, h.sz, fun j hj => by
    obtain ⟨b, o, e, hlt, h0, h1, h2⟩ := h.at' j hj
    exact ⟨b, o, e, Nat.lt_of_lt_of_le hlt hb.size, (hb.cell (p := ⟨b, o + j * 3, none⟩) hlt).trans h0, (hb.cell (p := ⟨b, o + j * 3 + 1, none⟩) hlt).trans h1, (hb.cell (p := ⟨b, o + j * 3 + 2, none⟩) hlt).trans h2⟩⟩
theorem Ths.drew {w : World} {A : Option Addr} {l : List Tg} (h : Ths w A l) : Ths w.drew A l := h.keep (Below.refl _ _).drew
theorem Ths.alloc {w : World} {A : Option Addr} {l : List Tg} (h : Ths w A l) (o : Obj) : Ths (w.alloc o) A l := h.keep ((Below.refl _ _).alloc (Nat.le_refl _) o)
theorem ths_nil (w : World) (A : Option Addr) : Ths w A [] := ⟨by simp, fun _ h => by simp at h, fun _ h => by simp at h, fun j h => by simp at h⟩
/-- a row of things of the call's own -/
theorem own_ths {W : World} {B n c : Nat} {t : TypeId} {G : Option Addr} {l : List Tg} (h : W.ownsRow B t 3 (.slice G n c) n (tcells l)) (hl : n ≤ 1000000) (hn : ∀ g ∈ l, Txs W g.1 g.2.2.1 ∧ g.2.2.1.length ≤ g.2.1) (hs : ∀ g ∈ l, g.2.2.2.2.size ≤ 9223372036854775807) : Ths W G l ∧ l.length = n := by
  have hln : l.length = n := by
    have := h.1
    rw [tcells_len] at this
    omega
  refine ⟨⟨by omega, hn, hs, fun j hj => ?_⟩, hln⟩
  obtain ⟨f0, f1, f2⟩ := tcells_get hj
  rcases h.2 with ⟨e, h0⟩ | ⟨g, cap, cur, e, hB, hh, _, _, _, ht⟩
  · omega
  · injection e with e
    subst e
    have key : ∀ i, i < n * 3 → W.cell? ⟨g, 0 + i, none⟩ = (tcells l)[i]? := fun i hi => by
      have := congrArg (·[i]?) ht
      rw [List.getElem?_take, if_pos hi] at this
      unfold World.cell?
      rw [hh, Nat.zero_add]
      simp only
      rw [← Array.getElem?_toList]
      exact this
    exact ⟨g, 0, rfl, (Array.getElem?_eq_some_iff.1 hh).1, (key _ (by omega)).trans f0, (key (j * 3 + 1) (by omega)).trans f1, (key (j * 3 + 2) (by omega)).trans f2⟩
theorem ths_news {W : World} {ad : Addr} {l : List Tg} (h : Ths W (some ad) l) : ∀ j u, (tcells l)[j]? = some u → W.cell? (ad.add j) = some u := by
  intro j u hu
  have hj : j < l.length * 3 := by
    have := (List.getElem?_eq_some_iff.1 hu).1
    rwa [tcells_len] at this
  have hj3 : j / 3 < l.length := by omega
  obtain ⟨b, o, e, _, h0, h1, h2⟩ := h.at' (j / 3) hj3
  obtain ⟨f0, f1, f2⟩ := tcells_get hj3
  injection e with e
  subst e
  rw [Go.WideShapes.add_plain]
  have hm : j % 3 = 0 ∨ j % 3 = 1 ∨ j % 3 = 2 := by omega
  rcases hm with hm | hm | hm
  · have e : j = j / 3 * 3 := by omega
    rw [← e] at h0 f0
    rw [h0, ← hu, f0]
  · have e : j = j / 3 * 3 + 1 := by omega
    rw [Nat.add_assoc, ← e] at h1
    rw [← e] at f1
    rw [h1, ← hu, f1]
  · have e : j = j / 3 * 3 + 2 := by omega
    rw [Nat.add_assoc, ← e] at h2
    rw [← e] at f2
    rw [h2, ← hu, f2]

/-- names stay where a cell elsewhere is stored -/
theorem txs_set {w : World} {A : Option Addr} {n : Nm} {b : Nat} (h : Txs w A n) (hne : ∀ a, A = some a → b < a.block) (o : Nat) (v : Value) : Txs (w.setCell ⟨b, o, none⟩ v) A n :=
  ⟨h.size, h.len, fun j hj => by
    obtain ⟨b', o', e, hlt, hc⟩ := h.at' j hj
    have hbb : b < b' := hne _ e
    refine ⟨b', o', e, by simpa [World.setCell] using hlt, ?_⟩
    rw [World.cell?_setCell_other _ _ _ _ (fun e => by injection e with e; omega)]
    exact hc⟩
/-- a row of the call's own stays where a cell elsewhere is stored -/
theorem own_set {w : World} {B b n s : Nat} {t : TypeId} {v : Value} {xs : List Value} (h : w.ownsRow B t s v n xs) (hb : b < B) (o : Nat) (u : Value) : (w.setCell ⟨b, o, none⟩ u).ownsRow B t s v n xs := by
  rcases h with ⟨h1, h2⟩
  refine ⟨h1, ?_⟩
  rcases h2 with h0 | ⟨g, cap, cur, e, hB, hh, hr⟩
  · exact .inl h0
  · exact .inr ⟨g, cap, cur, e, hB, (Deep.blk_setCell_other w ⟨b, o, none⟩ u g (by simp only; omega)).trans hh, hr⟩

/-- block b is none of theirs -/
def Apart (b : Nat) (A : Option Addr) (l : List Tg) : Prop := (∀ a, A = some a → l ≠ [] → a.block ≠ b) ∧ ∀ g ∈ l, ∀ a, g.1 = some a → g.2.2.1 ≠ [] → a.block ≠ b
theorem Ths.apart {w : World} {A : Option Addr} {l : List Tg} (h : Ths w A l) {b : Nat} (hb : w.heap.size ≤ b) : Apart b A l := by
  refine ⟨fun a e hl => ?_, fun g hg a e hn => ?_⟩
  · obtain ⟨b', o', e', hlt, _⟩ := h.at' 0 (List.length_pos_iff.2 hl)
    rw [e] at e'
    injection e' with e'
    subst e'
    simp only
    omega
  · obtain ⟨b', o', e', hlt, _⟩ := (h.nm g hg).1.at' 0 (List.length_pos_iff.2 hn)
    rw [e] at e'
    injection e' with e'
    subst e'
    simp only
    omega
theorem ths_set {w : World} {A : Option Addr} {l : List Tg} {b : Nat} (h : Ths w A l) (ha : Apart b A l) (o : Nat) (u : Value) : Ths (w.setCell ⟨b, o, none⟩ u) A l :=
  ⟨h.len, fun g hg => ⟨⟨(h.nm g hg).1.size, (h.nm g hg).1.len, fun j hj => by
    obtain ⟨b', o', e, hlt, hc⟩ := (h.nm g hg).1.at' j hj
    have hne : b' ≠ b := ha.2 g hg _ e (fun h0 => by rw [h0] at hj; simp at hj)
    refine ⟨b', o', e, by simpa [World.setCell] using hlt, ?_⟩
    rw [World.cell?_setCell_other _ _ _ _ (fun e => by injection e with e; omega)]
    exact hc⟩, (h.nm g hg).2⟩, h.sz, fun j hj => by
    obtain ⟨b', o', e, hlt, h0, h1, h2⟩ := h.at' j hj
    have hne : b' ≠ b := ha.1 _ e (fun h0 => by rw [h0] at hj; simp at hj)
    refine ⟨b', o', e, by simpa [World.setCell] using hlt, ?_, ?_, ?_⟩
    all_goals rw [World.cell?_setCell_other _ _ _ _ (fun e => by injection e with e; omega)]
    · exact h0
    · exact h1
    · exact h2⟩

/-- a tree's value -/
abbrev tv (A : Option Addr) (n c : Nat) : Value := .agg #[.slice A n c]

theorem ths_get {l : List Tg} {j : Nat} (h : j < l.length) : (ths l)[j]'(by simpa using h) = l[j].2.2 := by simp

end Tre
end Go.Proofs.YtafkccdbnfelkaaDoor
/- The program's Join and the document's. -/
namespace Go.Proofs.YtafkccdbnfelkaaDoor
open Go.RowKit Go.MapKept Go.Shelf
namespace Pat

theorem lens_le {l : List ByteArray} (h : IsNames l) : (Lib.join (l.map (·.data.toList)) [47]).length ≤ 10000 := by
  cases l with
  | nil => simp [Lib.join_nil]
  | cons x r =>
    rw [List.map_cons, Lib.join_length]
    have key : ∀ (m : List ByteArray), (∀ n ∈ m, Ent.Right (Crc.tx n)) → Lib.lens (m.map (·.data.toList)) ≤ 48 * m.length := by
      intro m
      induction m with
      | nil => intro _; simp [Lib.lens]
      | cons y m ih =>
        intro hm
        have h1 := (hm y (by simp)).1.2
        have h2 := ih (fun n hn => hm n (by simp [hn]))
        unfold Crc.tx at h1
        rw [List.length_map] at h1
        simp only [Lib.lens, List.map_cons, List.sum_cons, List.length_cons] at h2 ⊢
        omega
    have h1 := key (x :: r) h.2
    rw [List.map_cons] at h1
    have h2 := h.1
    simp only [List.length_cons, List.length_map, List.length_nil] at h1 h2 ⊢
    omega

/-- what Join answers -/
def jn (l : List ByteArray) : Value := if IsNames l then .tuple #[.string (pth l), .int .i64 0] else .tuple #[.string ByteArray.empty, .int .i64 3]
theorem pth_front (l : List ByteArray) : (⟨#[47]⟩ : ByteArray) ++ mk (Lib.join (l.map (·.data.toList)) [47]) = pth l := by
  rw [pth_join]
  apply ByteArray.ext
  rw [ByteArray.data_append]
  simp

end Pat
end Go.Proofs.YtafkccdbnfelkaaDoor
/- The document's Split, byte by byte. -/
namespace Go.Proofs.YtafkccdbnfelkaaDoor
open Go.RowKit Go.MapKept Go.Shelf
namespace Pat

/-- behind k bytes: m are done, t is begun -/
def Mid (s : ByteArray) (k : Nat) (m : List ByteArray) (t : ByteArray) : Prop :=
  k ≤ s.size ∧ cut (s.extract 1 s.size).data.toList = m.map (·.data.toList) ++ glue t.data.toList (cut (s.data.toList.drop k))
theorem drop_byte {s : ByteArray} {k : Nat} (h : k < s.size) : s.data.toList.drop k = s[k] :: s.data.toList.drop (k + 1) := by
  have h1 := Lib.data_getElem? s k h
  have h2 : k < s.data.toList.length := by rw [← Lib.size_eq]; exact h
  rw [List.drop_eq_getElem_cons h2]
  rw [List.getElem?_eq_getElem h2] at h1
  injection h1 with h1
  rw [h1]
theorem mid_start {s : ByteArray} (h : 0 < s.size) : Mid s 1 [] ByteArray.empty :=
  ⟨h, by rw [Lib.extract_to_end]; exact (glue_none (cut_ne _)).symm⟩
theorem mid_byte {s : ByteArray} {k : Nat} {m : List ByteArray} {t : ByteArray} (h : k < s.size) (hb : s[k] ≠ 47) (hm : Mid s k m t) : Mid s (k + 1) m (t ++ s.extract k (k + 1)) := by
  refine ⟨h, ?_⟩
  have e : (t ++ s.extract k (k + 1)).data.toList = t.data.toList ++ [s[k]] := by
    rw [ByteArray.data_append, Array.toList_append, Lib.extract_data]
    congr 1
    have := drop_byte h
    rw [this]
    simp
  rw [hm.2, drop_byte h, cut, if_neg hb, glue_glue, e]
theorem mid_piece {s : ByteArray} {k : Nat} {m : List ByteArray} {t : ByteArray} (h : k = s.size ∨ ∃ h : k < s.size, s[k] = 47) (hm : Mid s k m t) : ∃ r, cut (s.extract 1 s.size).data.toList = m.map (·.data.toList) ++ t.data.toList :: r := by
  rw [hm.2]
  rcases h with rfl | ⟨h, hb⟩
  · refine ⟨[], ?_⟩
    rw [List.drop_eq_nil_of_le (by rw [← Lib.size_eq]; exact Nat.le_refl _)]
    simp [cut, glue]
  · refine ⟨cut (s.data.toList.drop (k + 1)), ?_⟩
    rw [drop_byte h, cut, if_pos hb]
    simp [glue]
theorem mid_cut {s : ByteArray} {k : Nat} {m : List ByteArray} {t : ByteArray} (h : k < s.size) (hb : s[k] = 47) (hm : Mid s k m t) : Mid s (k + 1) (m ++ [t]) ByteArray.empty := by
  refine ⟨h, ?_⟩
  rw [hm.2, drop_byte h, cut, if_pos hb, show ByteArray.empty.data.toList = [] from rfl, glue_none (cut_ne _)]
  simp [glue]
theorem mid_end {s : ByteArray} {m : List ByteArray} {t : ByteArray} (hm : Mid s s.size m t) : cut (s.extract 1 s.size).data.toList = (m ++ [t]).map (·.data.toList) := by
  rw [hm.2, List.drop_eq_nil_of_le (by rw [← Lib.size_eq]; exact Nat.le_refl _)]
  simp [cut, glue]

/-- between two rounds -/
def St (s : ByteArray) (k : Nat) (m : List ByteArray) (t : ByteArray) : Prop :=
  (∀ n ∈ m, Ent.Right (Crc.tx n)) ∧ m.length ≤ 64 ∧ t.size ≤ k ∧ (Mid s k m t ∨ (k = s.size + 1 ∧ cut (s.extract 1 s.size).data.toList = m.map (·.data.toList)))
theorem St.mid {s : ByteArray} {k : Nat} {m : List ByteArray} {t : ByteArray} (h : St s k m t) (hk : k ≤ s.size) : Mid s k m t := by
  rcases h.2.2.2 with h | ⟨h, _⟩
  · exact h
  · omega
theorem St.byte {s : ByteArray} {k : Nat} {m : List ByteArray} {t : ByteArray} (h : St s k m t) (hk : k < s.size) (hb : s[k] ≠ 47) : St s (k + 1) m (t ++ s.extract k (k + 1)) :=
  ⟨h.1, h.2.1, by have := h.2.2.1; rw [ByteArray.size_append, ByteArray.size_extract]; omega, .inl (mid_byte hk hb (h.mid (Nat.le_of_lt hk)))⟩
theorem St.next {s : ByteArray} {k : Nat} {m : List ByteArray} {t : ByteArray} (h : St s k m t) (hk : k ≤ s.size) (hb : k = s.size ∨ ∃ h : k < s.size, s[k] = 47) (hr : Ent.Right (Crc.tx t)) (hl : m.length < 64) : St s (k + 1) (m ++ [t]) ByteArray.empty := by
  refine ⟨fun n hn => ?_, by simp; omega, Nat.zero_le _, ?_⟩
  · rcases List.mem_append.1 hn with h1 | h1
    · exact h.1 n h1
    · obtain rfl : n = t := by simpa using h1
      exact hr
  · rcases hb with rfl | ⟨hlt, hb⟩
    · exact .inr ⟨rfl, mid_end (h.mid hk)⟩
    · exact .inl (mid_cut hlt hb (h.mid hk))
theorem St.none {s : ByteArray} {k : Nat} {m : List ByteArray} {t : ByteArray} (h : St s k m t) (hk : k ≤ s.size) (hb : k = s.size ∨ ∃ h : k < s.size, s[k] = 47) (hr : ¬ Ent.Right (Crc.tx t) ∨ m.length = 64) : ¬ IsNames ((cut (s.extract 1 s.size).data.toList).map mk) := by
  obtain ⟨r, e⟩ := mid_piece hb (h.mid hk)
  intro hn
  rw [e] at hn
  rcases hr with hr | hr
  · exact hr (hn.2 t (by simp))
  · have := hn.1
    simp at this
    omega
theorem St.last {s : ByteArray} {k : Nat} {m : List ByteArray} {t : ByteArray} (h : St s k m t) (hk : s.size < k) : (cut (s.extract 1 s.size).data.toList).map mk = m ∧ IsNames m := by
  rcases h.2.2.2 with h1 | ⟨_, h1⟩
  · have := h1.1
    omega
  · exact ⟨by rw [h1, map_mk], h.2.1, h.1⟩

/-- what the document's Split answers -/
def RefS (w : World) (s : ByteArray) (e : Ending) (w' : World) : Prop :=
  Below w.heap.size w w' ∧ ((∃ l A c, spl s = some l ∧ e = .returned (.tuple #[.slice A l.length c, .bool true]) ∧ Txs w' A l ∧ l.length ≤ c ∧ ∀ a, A = some a → w.heap.size ≤ a.block) ∨ (spl s = none ∧ e = .returned (.tuple #[.slice none 0 0, .bool false])))
/-- names of the call's own -/
def GotO (w wr : World) (G : Option Addr) (gc : Nat) (m : List ByteArray) : Prop := wr.ownsRow w.heap.size 9 1 (.slice G m.length gc) m.length (strs m) ∧ Below w.heap.size w wr
theorem own_base {w : World} {B n c : Nat} {t : TypeId} {a : Addr} {xs : List Value} (h : w.ownsRow B t 1 (.slice (some a) n c) n xs) : B ≤ a.block := by
  rcases h.2 with ⟨e, _⟩ | ⟨g, cap, cur, e, hB, _⟩
  · cases e
  · injection e with e
    injection e with e
    subst e
    exact hB
theorem right_size {s : ByteArray} (h : Ent.Right (Crc.tx s)) : s.size ≤ 48 := by have := h.1.2; rw [Crc.tx_len] at this; exact this

end Pat
end Go.Proofs.YtafkccdbnfelkaaDoor
/- What going to names tells; whether names are a directory's; where a path's file stands. -/
namespace Go.Proofs.YtafkccdbnfelkaaDoor
open Go.RowKit Go.MapKept
namespace Tre
open Pat (Txs)

theorem fv_none {t : List Th} {n : Nm} (h : fi t n = none) : fv t n = -1 := by unfold fv; rw [h]
theorem fv_some {t : List Th} {n : Nm} {i : Nat} (h : fi t n = some i) : fv t n = (i : Int) := by unfold fv; rw [h]
theorem fi_lt {l : List Tg} {n : Nm} {i : Nat} (h : fi (ths l) n = some i) : i < l.length := by
  obtain ⟨h1, _⟩ := fi_some h
  simpa using h1
theorem isDir_at {l : List Tg} {i : Nat} (h : i < l.length) : isDirAt (ths l) i = l[i].2.2.2.1 := by
  unfold isDirAt
  rw [List.getElem?_eq_getElem (by simpa using h)]
  simp
theorem goF_none {t : List Th} {n : Nm} {f k : Nat} (h : fi t (n.take k) = none) : goF t n (f + 1) k = 4 := by rw [goF, h]
theorem goF_file {t : List Th} {n : Nm} {f k i : Nat} (h : fi t (n.take k) = some i) (hk : k < n.length) (hd : isDirAt t i = false) : goF t n (f + 1) k = 6 := by
  rw [goF, h]
  exact if_pos ⟨hk, hd⟩
theorem goF_next {t : List Th} {n : Nm} {f k i : Nat} (h : fi t (n.take k) = some i) (hn : ¬ (k < n.length ∧ isDirAt t i = false)) : goF t n (f + 1) k = goF t n f (k + 1) := by
  rw [goF, h]
  exact if_neg hn

theorem below_drew {w w1 : World} (h : Below w.drew.heap.size w.drew w1) : Below w.heap.size w w1 := ⟨h.os, h.tape, h.output, h.size, h.block⟩

end Tre
end Go.Proofs.YtafkccdbnfelkaaDoor
/- Whether names are a directory's; where a path's file stands. -/
namespace Go.Proofs.YtafkccdbnfelkaaDoor
open Go.RowKit Go.MapKept
namespace Tre
open Pat (Txs)

theorem dirT_nil (t : List Th) : dirT t [] = true := if_pos rfl
theorem dirT_none {t : List Th} {n : Nm} (h0 : n ≠ []) (h : fi t n = none) : dirT t n = false := by unfold dirT; rw [if_neg h0, h]
theorem dirT_some {t : List Th} {n : Nm} {i : Nat} (h0 : n ≠ []) (h : fi t n = some i) : dirT t n = isDirAt t i := by unfold dirT; rw [if_neg h0, h]

/-- where a path's file stands, or below 0; the error -/
def fileT (t : List Th) (p : ByteArray) : Int × Int :=
  match Pat.spl p with
  | none => (-1, 3)
  | some n => if goT t n ≠ 0 then (-1, goT t n) else if dirT t n = true then (-1, 7) else (fv t n, 0)
theorem fileT_none {t : List Th} {p : ByteArray} (h : Pat.spl p = none) : fileT t p = (-1, 3) := by unfold fileT; rw [h]
theorem fileT_go {t : List Th} {p : ByteArray} {n : Nm} (h : Pat.spl p = some n) (hg : goT t n ≠ 0) : fileT t p = (-1, goT t n) := by unfold fileT; rw [h]; exact if_pos hg
theorem fileT_dir {t : List Th} {p : ByteArray} {n : Nm} (h : Pat.spl p = some n) (hg : goT t n = 0) (hd : dirT t n = true) : fileT t p = (-1, 7) := by
  unfold fileT
  rw [h]
  exact (if_neg (fun h => h hg)).trans (if_pos hd)
theorem fileT_yes {t : List Th} {p : ByteArray} {n : Nm} (h : Pat.spl p = some n) (hg : goT t n = 0) (hd : dirT t n = false) : fileT t p = (fv t n, 0) := by
  unfold fileT
  rw [h]
  exact (if_neg (fun h => h hg)).trans (if_neg (by rw [hd]; decide))

end Tre
end Go.Proofs.YtafkccdbnfelkaaDoor
/- A thing more. -/
namespace Go.Proofs.YtafkccdbnfelkaaDoor
open Go.RowKit Go.MapKept
namespace Tre
open Pat (Txs)

theorem row_slice3 {B n : Nat} {W : World} {e : TypeId} {v : Value} {xs : List Value} (h : W.ownsRow B e 3 v n xs) : ∃ G c, v = .slice G n c := by
  rcases h.2 with ⟨e, h0⟩ | ⟨g, cap, cur, e, _⟩
  · exact ⟨none, 0, by rw [e, h0]⟩
  · exact ⟨_, _, e⟩
theorem row_base_lt3 {w : World} {B : Nat} {e : TypeId} {n : Nat} {v : Value} {xs : List Value} (h : w.ownsRow B e 3 v n xs) {g : Nat} (hg : v.ownBlock = some g) : B ≤ g := (World.ownsRow.lt h g hg).1
/-- a row of three cells each of the call's own stays -/
theorem own_keep3 {w w' : World} {B n : Nat} {t : TypeId} {v : Value} {xs : List Value} (h : w.ownsRow B t 3 v n xs) (hb : Below w.heap.size w w') : w'.ownsRow B t 3 v n xs := by
  have hN := fun g hg => (World.ownsRow.lt h g hg).2
  rcases h with ⟨h1, h2⟩
  refine ⟨h1, ?_⟩
  rcases h2 with h0 | ⟨g, cap, cur, e, hB, hh, hr⟩
  · exact .inl h0
  · exact .inr ⟨g, cap, cur, e, hB, (hb.block g (hN g (by rw [e]; rfl))).trans hh, hr⟩
theorem nil_of_none {w : World} {l : List Tg} (h : Ths w none l) : l = [] := by
  cases l with
  | nil => rfl
  | cons b l =>
    obtain ⟨_, _, e, _⟩ := h.at' 0 (by simp)
    cases e
theorem three_new (w : World) (x y z : Value) (t : TypeId) : ∀ j u, [x, y, z][j]? = some u → (w.alloc (.cells #[x, y, z] t)).cell? ((⟨w.heap.size, 0, none⟩ : Addr).add j) = some u := by
  intro j u hj
  match j, hj with
  | 0, hj =>
    simp at hj
    subst hj
    simp [Addr.add]
  | 1, hj =>
    simp at hj
    subst hj
    simp [Addr.add]
  | 2, hj =>
    simp at hj
    subst hj
    simp [Addr.add]

/-- a thing more; the error -/
def addT (t : List Th) (p : ByteArray) (d : Bool) : List Th × Int :=
  match Pat.spl p with
  | none => (t, 3)
  | some n => if n = [] then (t, 5) else if goT t (n.take (n.length - 1)) ≠ 0 then (t, goT t (n.take (n.length - 1))) else if dirT t (n.take (n.length - 1)) = false then (t, 6) else if (fi t n).isSome then (t, 5) else (t ++ [(n, d, ByteArray.empty)], 0)
/-- a tree that is answered, with an error -/
def TrR (w : World) (A0 : Option Addr) (l0 : List Tg) (r : List Th × Int) (e : Ending) (w' : World) : Prop :=
  ∃ (A : Option Addr) (c : Nat) (l : List Tg), e = .returned (.tuple #[tv A l.length c, .int .i64 r.2]) ∧ Ths w' A l ∧ ths l = r.1 ∧ (A = none → c = 0) ∧ l.length ≤ c ∧ Below w.heap.size w w' ∧ ∀ b, b < w.heap.size → Apart b A0 l0 → Apart b A l

theorem addT_none {t : List Th} {p : ByteArray} {d : Bool} (h : Pat.spl p = none) : addT t p d = (t, 3) := by unfold addT; rw [h]
theorem addT_root {t : List Th} {p : ByteArray} {d : Bool} (h : Pat.spl p = some []) : addT t p d = (t, 5) := by unfold addT; rw [h]; rfl
section
variable {t : List Th} {p : ByteArray} {d : Bool} {n : Nm} (h : Pat.spl p = some n) (h0 : n ≠ [])
include h h0
theorem addT_go (hg : goT t (n.take (n.length - 1)) ≠ 0) : addT t p d = (t, goT t (n.take (n.length - 1))) := by
  unfold addT
  rw [h]
  simp only
  rw [if_neg h0, if_pos hg]
theorem addT_file (hg : goT t (n.take (n.length - 1)) = 0) (hd : dirT t (n.take (n.length - 1)) = false) : addT t p d = (t, 6) := by
  unfold addT
  rw [h]
  simp only
  rw [if_neg h0, if_neg (fun h => h hg), if_pos hd]
theorem addT_there {i : Nat} (hg : goT t (n.take (n.length - 1)) = 0) (hd : dirT t (n.take (n.length - 1)) = true) (hf : fi t n = some i) : addT t p d = (t, 5) := by
  unfold addT
  rw [h]
  simp only
  rw [if_neg h0, if_neg (fun h => h hg), if_neg (by rw [hd]; decide), if_pos (by rw [hf]; rfl)]
theorem addT_yes (hg : goT t (n.take (n.length - 1)) = 0) (hd : dirT t (n.take (n.length - 1)) = true) (hf : fi t n = none) : addT t p d = (t ++ [(n, d, ByteArray.empty)], 0) := by
  unfold addT
  rw [h]
  simp only
  rw [if_neg h0, if_neg (fun h => h hg), if_neg (by rw [hd]; decide), if_neg (by rw [hf]; decide)]
end

/-- a tree in a box, and the answer's block -/
structure Bx (w : World) (b0 b1 : Nat) (v u : Value) : Prop where
  l0 : b0 < w.heap.size
  l1 : b1 < w.heap.size
  c0 : w.cell? ⟨b0, 0, none⟩ = some v
  c1 : w.cell? ⟨b1, 0, none⟩ = some u
  f1 : w.frozen? ⟨b1, 0, none⟩ = false
theorem Bx.keep {w w' : World} {b0 b1 : Nat} {v u : Value} (h : Bx w b0 b1 v u) (hb : Below w.heap.size w w') : Bx w' b0 b1 v u :=
  ⟨Nat.lt_of_lt_of_le h.l0 hb.size, Nat.lt_of_lt_of_le h.l1 hb.size, (hb.cell (p := ⟨b0, 0, none⟩) h.l0).trans h.c0, (hb.cell (p := ⟨b1, 0, none⟩) h.l1).trans h.c1, (hb.frozen (p := ⟨b1, 0, none⟩) h.l1).trans h.f1⟩
theorem bx_new (w : World) (v u : Value) (t t' : TypeId) : Bx ((w.alloc (.cells #[v] t)).alloc (.cells #[u] t')) w.heap.size (w.heap.size + 1) v u := by
  have e : (w.alloc (.cells #[v] t)).heap.size = w.heap.size + 1 := by simp
  have r := World.rowIs_alloc (w.alloc (.cells #[v] t)) #[u] t' (fun _ => u) (fun j hj => by
    have : j < 1 := hj
    match j, this with
    | 0, _ => rfl)
  rw [e] at r
  exact ⟨by simp; omega, by simp, by rw [World.cell?_alloc_old _ _ _ (by simp)]; exact Crc.alloc_cell w #[v] t 0, r.cell (by simp), r.frozen 0⟩

end Tre
end Go.Proofs.YtafkccdbnfelkaaDoor
/- A thing's bytes changed; noughts. -/
namespace Go.Proofs.YtafkccdbnfelkaaDoor
open Go.RowKit Go.MapKept
namespace Tre
open Pat (Txs)

/-- a tree that is answered: a new row, of names that these had -/
def TrV (w : World) (src : List Tg) (t : List Th) (e : Ending) (w' : World) : Prop :=
  ∃ (A : Option Addr) (c : Nat) (l : List Tg), e = .returned (tv A l.length c) ∧ Ths w' A l ∧ ths l = t ∧ (A = none → c = 0) ∧ l.length ≤ c ∧ Below w.heap.size w w' ∧ (∀ a, A = some a → w.heap.size ≤ a.block) ∧ ∀ g ∈ l, ∃ x ∈ src, g.1 = x.1 ∧ g.2.1 = x.2.1 ∧ g.2.2.1 = x.2.2.1
/-- a tree's things stay where a cell elsewhere is stored -/
theorem ths_put {w : World} {A : Option Addr} {l : List Tg} {b o : Nat} {u : Value} (h : Ths w A l) (hA : ∀ a, A = some a → b < a.block) (hn : ∀ g ∈ l, Txs (w.setCell ⟨b, o, none⟩ u) g.1 g.2.2.1) : Ths (w.setCell ⟨b, o, none⟩ u) A l :=
  ⟨h.len, fun g hg => ⟨hn g hg, (h.nm g hg).2⟩, h.sz, fun j hj => by
    obtain ⟨b', o', e, hlt, h0, h1, h2⟩ := h.at' j hj
    have hbb : b < b' := hA _ e
    refine ⟨b', o', e, by simpa [World.setCell] using hlt, ?_, ?_, ?_⟩
    all_goals rw [World.cell?_setCell_other _ _ _ _ (fun e => by injection e with e; omega)]
    · exact h0
    · exact h1
    · exact h2⟩

/-- the thing at i has other bytes -/
def setT : List Th → Nat → ByteArray → List Th
  | [], _, _ => []
  | x :: t, 0, s => (x.1, x.2.1, s) :: t
  | x :: t, i + 1, s => x :: setT t i s
def setG : List Tg → Nat → ByteArray → List Tg
  | [], _, _ => []
  | x :: t, 0, s => (x.1, x.2.1, x.2.2.1, x.2.2.2.1, s) :: t
  | x :: t, i + 1, s => x :: setG t i s
theorem setG_len : ∀ (l : List Tg) (i : Nat) (s : ByteArray), (setG l i s).length = l.length
  | [], _, _ => rfl
  | _ :: _, 0, _ => rfl
  | _ :: l, i + 1, s => by rw [setG, List.length_cons, List.length_cons, setG_len l i s]
theorem ths_setG : ∀ (l : List Tg) (i : Nat) (s : ByteArray), ths (setG l i s) = setT (ths l) i s
  | [], _, _ => rfl
  | _ :: _, 0, _ => rfl
  | x :: l, i + 1, s => by
    have := ths_setG l i s
    simp only [ths, setG, setT, List.map_cons] at *
    rw [this]
theorem tcells_setG : ∀ (l : List Tg) (i : Nat) (s : ByteArray), tcells (setG l i s) = (tcells l).set (i * 3 + 2) (.string s)
  | [], _, _ => rfl
  | _ :: _, 0, _ => rfl
  | x :: l, i + 1, s => by
    rw [show (i + 1) * 3 + 2 = i * 3 + 2 + 1 + 1 + 1 by omega, show tcells (setG (x :: l) (i + 1) s) = tc x ++ tcells (setG l i s) from rfl, tcells_setG l i s, show tcells (x :: l) = tc x ++ tcells l from rfl]
    rfl
theorem setG_mem : ∀ (l : List Tg) (i : Nat) (s : ByteArray) (g : Tg), g ∈ setG l i s → (∃ x ∈ l, g.1 = x.1 ∧ g.2.1 = x.2.1 ∧ g.2.2.1 = x.2.2.1) ∧ (g ∈ l ∨ g.2.2.2.2 = s)
  | [], _, _, g, h => by simp [setG] at h
  | x :: l, 0, s, g, h => by
    rcases List.mem_cons.1 h with rfl | h
    · exact ⟨⟨x, by simp, rfl, rfl, rfl⟩, .inr rfl⟩
    · exact ⟨⟨g, by simp [h], rfl, rfl, rfl⟩, .inl (by simp [h])⟩
  | x :: l, i + 1, s, g, h => by
    rcases List.mem_cons.1 h with rfl | h
    · exact ⟨⟨g, by simp, rfl, rfl, rfl⟩, .inl (by simp)⟩
    · obtain ⟨⟨y, hy, e⟩, h2⟩ := setG_mem l i s g h
      exact ⟨⟨y, by simp [hy], e⟩, h2.elim (fun h => .inl (by simp [h])) .inr⟩

/-- so many noughts -/
def zt (n : Nat) : ByteArray := Crc.str (List.replicate n 0)
theorem zt_size (n : Nat) : (zt n).size = n := by
  rw [Lib.size_eq]
  unfold zt Crc.str
  simp
theorem zeros_bts (w : World) (n : Nat) (hn : n ≤ 9223372036854775807) : Crc.Bts (w.alloc (.cells (madeCells #[.int .u8 0] n) 5)) (some ⟨w.heap.size, 0, none⟩) (List.replicate n 0) := by
  have hr := World.rowIs_made w (.int .u8 0) n 5
  refine ⟨fun b hb => ?_, by rw [List.length_replicate]; exact hn, fun j hj => ⟨w.heap.size, 0, rfl, by simp, ?_⟩⟩
  · obtain ⟨_, rfl⟩ := List.mem_replicate.1 hb
    decide
  · rw [List.length_replicate] at hj
    rw [Nat.zero_add, hr.cell hj, List.getElem_replicate]
    rfl
end Tre
end Go.Proofs.YtafkccdbnfelkaaDoor
/- A thing fewer. -/
namespace Go.Proofs.YtafkccdbnfelkaaDoor
open Go.RowKit Go.MapKept
namespace Tre
open Pat (Txs)

/-- at a step of a region that draws: an append whose run is known -/
theorem step_append_run {P : Program} {w w' : World} {ops : Array Oper} {o : Oper} {a : Act} {K : Act → World → Prop} {Q : Exit → Act → World → Prop} {E : Prop} (hgd : o.guard = none) (s x : Operand) (t : TypeId)
    (ho : o.op = .call { callee := .builtin .append, args := #[s, x], argTypes := #[t, t] }) (v u v' : Value) (hs : a.eval s = v) (hx : a.eval x = u) (hr : (Builtin.append_ #[t, t] o.type #[v, u]).run P w = .ok v' w')
    (h : K (a.put o.dst v') w') : if Region.wanted o (yielded ops a.tmps) = true then Oper.wp P o a w K Q else E := by
  have hw : Region.wanted o (yielded ops a.tmps) = true := by simp [Region.wanted, hgd]
  rw [if_pos hw]
  unfold Oper.wp execOp
  simp only [ho, resolve, invoke, builtin, Sem.run_bind, Sem.run_pure, Result.andThen_ok, List.map_toArray, List.map_cons, List.map_nil, hs, hx, hr]
  exact h

/-- a thing fewer -/
def dropT (t : List Th) (i : Nat) : List Th := t.take i ++ t.drop (i + 1)

end Tre
end Go.Proofs.YtafkccdbnfelkaaDoor
/- What stands in a tree, by its names; what a thing more, other bytes, a thing fewer make of it. Of no program. -/
namespace Go.Proofs.YtafkccdbnfelkaaDoor
open Go.RowKit Go.MapKept
namespace Trk
open Tre (Nm Th fi isDirAt dirT goT goF setT dropT)

/-- what stands there: whether it is a directory, the bytes -/
def T (t : List Th) (n : Nm) : Option (Bool × ByteArray) := if n = [] then some (true, ByteArray.empty) else (fi t n).bind fun i => t[i]?.map (·.2)
theorem T_root (t : List Th) : T t [] = some (true, ByteArray.empty) := if_pos rfl
theorem T_fi {t : List Th} {n : Nm} {i : Nat} (h0 : n ≠ []) (h : fi t n = some i) : ∃ h : i < t.length, T t n = some t[i].2 := by
  obtain ⟨h1, _, _⟩ := Tre.fi_some h
  refine ⟨h1, ?_⟩
  unfold T
  rw [if_neg h0, h]
  simp [List.getElem?_eq_getElem h1]
theorem T_none {t : List Th} {n : Nm} (h0 : n ≠ []) (h : fi t n = none) : T t n = none := by
  unfold T
  rw [if_neg h0, h]
  rfl
theorem T_no {t : List Th} {n : Nm} (h : T t n = none) : n ≠ [] ∧ fi t n = none := by
  have h0 : n ≠ [] := fun e => by rw [e, T_root] at h; cases h
  refine ⟨h0, ?_⟩
  cases hf : fi t n with
  | none => rfl
  | some i =>
    obtain ⟨_, h1⟩ := T_fi h0 hf
    rw [h1] at h
    cases h
theorem T_mem {t : List Th} {n : Nm} (h0 : n ≠ []) {v : Bool × ByteArray} (h : T t n = some v) : (n, v) ∈ t := by
  cases hf : fi t n with
  | none => rw [T_none h0 hf] at h; cases h
  | some i =>
    obtain ⟨h1, h2⟩ := T_fi h0 hf
    obtain ⟨_, h3, _⟩ := Tre.fi_some hf
    rw [h2] at h
    injection h with h
    have : t[i] = (n, v) := by rw [← h, ← h3]
    rw [← this]
    exact List.getElem_mem h1
theorem fi_mem {t : List Th} {x : Th} (h : x ∈ t) : ∃ i, fi t x.1 = some i := by
  cases hf : fi t x.1 with
  | some i => exact ⟨i, rfl⟩
  | none =>
    unfold Tre.fi at hf
    rw [List.findIdx?_eq_none_iff] at hf
    have := hf x h
    simp at this
/-- each names stand once -/
def Once (t : List Th) : Prop := (t.map (·.1)).Nodup
theorem once_at {t : List Th} (h : Once t) {i j : Nat} (hi : i < t.length) (hj : j < t.length) (e : t[i].1 = t[j].1) : i = j := by
  have := List.pairwise_iff_getElem.1 h
  rcases Nat.lt_trichotomy i j with hl | hl | hl
  · exact absurd (show (t.map (·.1))[i]'(by simpa using hi) = (t.map (·.1))[j]'(by simpa using hj) by rw [List.getElem_map, List.getElem_map]; exact e) (this i j (by simpa using hi) (by simpa using hj) hl)
  · exact hl
  · exact absurd (show (t.map (·.1))[j]'(by simpa using hj) = (t.map (·.1))[i]'(by simpa using hi) by rw [List.getElem_map, List.getElem_map]; exact e.symm) (this j i (by simpa using hj) (by simpa using hi) hl)
theorem mem_T {t : List Th} (h : Once t) {x : Th} (hx : x ∈ t) (h0 : x.1 ≠ []) : T t x.1 = some x.2 := by
  obtain ⟨i, hi⟩ := fi_mem hx
  obtain ⟨h1, h2⟩ := T_fi h0 hi
  obtain ⟨_, h3, _⟩ := Tre.fi_some hi
  obtain ⟨j, hj, rfl⟩ := List.getElem_of_mem hx
  have := once_at h h1 hj h3
  subst this
  exact h2
theorem fi_app {t : List Th} {x : Th} (h : fi t x.1 = none) (n : Nm) : fi (t ++ [x]) n = if n = x.1 then some t.length else fi t n := by
  have hx : ∀ y ∈ t, y.1 ≠ x.1 := fun y hy e => by
    obtain ⟨i, hi⟩ := fi_mem hy
    rw [e, h] at hi
    cases hi
  by_cases e : n = x.1
  · subst e
    rw [if_pos rfl]
    refine Tre.fi_at (by simp) (by simp) (fun j hj => ?_)
    rw [List.getElem_append_left hj]
    exact hx _ (List.getElem_mem _)
  · rw [if_neg e]
    cases hf : fi t n with
    | none =>
      refine Tre.fi_none (fun j hj => ?_)
      by_cases hjt : j < t.length
      · rw [List.getElem_append_left hjt]
        intro e'
        obtain ⟨i, hi⟩ := fi_mem (List.getElem_mem hjt)
        rw [e', hf] at hi
        cases hi
      · have : j = t.length := by simp at hj; omega
        subst this
        simpa using fun e' : x.1 = n => e e'.symm
    | some i =>
      obtain ⟨h1, h2, h3⟩ := Tre.fi_some hf
      refine Tre.fi_at (by simp; omega) (by rw [List.getElem_append_left h1]; exact h2) (fun j hj => ?_)
      rw [List.getElem_append_left (by omega)]
      exact h3 j hj
theorem T_app {t : List Th} {x : Th} (h0 : x.1 ≠ []) (h : fi t x.1 = none) (n : Nm) : T (t ++ [x]) n = if n = x.1 then some x.2 else T t n := by
  by_cases e : n = x.1
  · subst e
    rw [if_pos rfl]
    obtain ⟨h1, h2⟩ := T_fi (t := t ++ [x]) (i := t.length) h0 (by rw [fi_app h, if_pos rfl])
    rw [h2]
    simp
  · rw [if_neg e]
    unfold T
    by_cases hn : n = []
    · rw [if_pos hn, if_pos hn]
    · rw [if_neg hn, if_neg hn, fi_app h, if_neg e]
      cases hf : fi t n with
      | none => rfl
      | some i =>
        obtain ⟨h1, _, _⟩ := Tre.fi_some hf
        simp only [Option.bind_some]
        rw [List.getElem?_append_left h1]
theorem setT_len : ∀ (t : List Th) (i : Nat) (s : ByteArray), (setT t i s).length = t.length
  | [], _, _ => rfl
  | _ :: _, 0, _ => rfl
  | _ :: t, i + 1, s => by rw [setT, List.length_cons, List.length_cons, setT_len t i s]
theorem setT_at : ∀ (t : List Th) (i j : Nat) (s : ByteArray), (setT t i s)[j]? = t[j]?.map fun x => if j = i then (x.1, x.2.1, s) else x
  | [], i, j, s => by simp [setT]
  | x :: t, 0, 0, s => by simp [setT]
  | x :: t, 0, j + 1, s => by simp [setT]
  | x :: t, i + 1, 0, s => by simp [setT]
  | x :: t, i + 1, j + 1, s => by
    rw [setT, List.getElem?_cons_succ, List.getElem?_cons_succ, setT_at t i j s]
    simp
theorem setT_names (t : List Th) (i : Nat) (s : ByteArray) : (setT t i s).map (·.1) = t.map (·.1) := by
  apply List.ext_getElem?
  intro j
  rw [List.getElem?_map, List.getElem?_map, setT_at]
  cases t[j]? with
  | none => rfl
  | some x => simp only [Option.map_some]; split <;> rfl
theorem fi_set (t : List Th) (i : Nat) (s : ByteArray) (n : Nm) : fi (setT t i s) n = fi t n := by
  have key : ∀ u : List Th, fi u n = (u.map (·.1)).findIdx? (fun x => decide (x = n)) := fun u => by
    unfold Tre.fi
    rw [List.findIdx?_map]
    rfl
  rw [key, key, setT_names]
theorem T_set {t : List Th} {p : Nm} {i : Nat} (h0 : p ≠ []) (h : fi t p = some i) {d : Bool} {s : ByteArray} (hv : T t p = some (d, s)) (u : ByteArray) (n : Nm) : T (setT t i u) n = if n = p then some (d, u) else T t n := by
  obtain ⟨h1, h2, _⟩ := Tre.fi_some h
  unfold T
  rw [fi_set]
  by_cases e : n = p
  · subst e
    rw [if_pos rfl, if_neg h0, h]
    obtain ⟨h3, h4⟩ := T_fi h0 h
    rw [hv] at h4
    injection h4 with h4
    simp only [Option.bind_some]
    rw [setT_at, List.getElem?_eq_getElem h1]
    simp [← h4]
  · rw [if_neg e]
    by_cases hn : n = []
    · rw [if_pos hn, if_pos hn]
    · rw [if_neg hn, if_neg hn]
      cases hf : fi t n with
      | none => rfl
      | some j =>
        obtain ⟨g1, g2, _⟩ := Tre.fi_some hf
        simp only [Option.bind_some]
        rw [setT_at, List.getElem?_eq_getElem g1]
        have : j ≠ i := fun e' => by
          subst e'
          exact e (g2.symm.trans h2)
        simp [this]
theorem once_drop {t : List Th} (h : Once t) (i : Nat) : Once (dropT t i) := by
  unfold Once Tre.dropT at *
  rw [← List.eraseIdx_eq_take_drop_succ]
  exact ((List.eraseIdx_sublist t i).map _).nodup h
theorem mem_drop {t : List Th} (h : Once t) {i : Nat} (hi : i < t.length) (x : Th) : x ∈ dropT t i ↔ x ∈ t ∧ x.1 ≠ t[i].1 := by
  unfold Tre.dropT
  rw [List.mem_append]
  constructor
  · rintro (hx | hx)
    · obtain ⟨j, hj, rfl⟩ := List.getElem_of_mem hx
      have hj' : j < i := by simp at hj; omega
      rw [List.getElem_take]
      exact ⟨List.getElem_mem _, fun e => by have := once_at h (by omega) hi e; omega⟩
    · obtain ⟨j, hj, rfl⟩ := List.getElem_of_mem hx
      rw [List.getElem_drop]
      exact ⟨List.getElem_mem _, fun e => by have := once_at h (by simp at hj; omega) hi e; omega⟩
  · rintro ⟨hx, hne⟩
    obtain ⟨j, hj, rfl⟩ := List.getElem_of_mem hx
    have hji : j ≠ i := fun e => by subst e; exact hne rfl
    rcases Nat.lt_or_gt_of_ne hji with hl | hl
    · refine .inl (List.mem_of_getElem? (i := j) ?_)
      rw [List.getElem?_take, if_pos hl, List.getElem?_eq_getElem hj]
    · refine .inr (List.mem_of_getElem? (i := j - (i + 1)) ?_)
      rw [List.getElem?_drop, show i + 1 + (j - (i + 1)) = j by omega, List.getElem?_eq_getElem hj]
theorem T_drop {t : List Th} (h : Once t) {p : Nm} {i : Nat} (h0 : p ≠ []) (hi : fi t p = some i) (n : Nm) : T (dropT t i) n = if n = p then none else T t n := by
  obtain ⟨h1, h2, _⟩ := Tre.fi_some hi
  by_cases e : n = p
  · subst e
    rw [if_pos rfl]
    refine T_none h0 ?_
    cases hf : fi (dropT t i) n with
    | none => rfl
    | some j =>
      obtain ⟨g1, g2, _⟩ := Tre.fi_some hf
      exact absurd (g2.trans h2.symm) ((mem_drop h h1 _).1 (List.getElem_mem g1)).2
  · rw [if_neg e]
    by_cases hn : n = []
    · subst hn; rw [T_root, T_root]
    cases hv : T t n with
    | some v =>
      have hm := T_mem hn hv
      exact mem_T (once_drop h i) ((mem_drop h h1 (n, v)).2 ⟨hm, fun e' => e (e'.trans h2)⟩) hn
    | none =>
      cases hv' : T (dropT t i) n with
      | none => rfl
      | some v =>
        have hm := ((mem_drop h h1 _).1 (T_mem hn hv')).1
        rw [mem_T h hm hn] at hv
        cases hv
end Trk
end Go.Proofs.YtafkccdbnfelkaaDoor
/- The program's tree as it lies in memory: for each thing a block, its bytes' row, its map. -/
namespace Go.Proofs.YtafkccdbnfelkaaDoor
open Go.RowKit Go.MapKept
namespace Trk
open Tre (Nm Th fi setT dropT)

/-- where a thing lies: its block, where its bytes are, what room they have, its map -/
structure Nd where
  b : Nat
  A : Option Addr
  c : Nat
  m : Option Nat
/-- the blocks that are its own -/
def own (x : Nd) : List Nat := x.b :: (x.m.toList ++ (x.A.map (·.block)).toList)

/-- how a map's element reads: the block that it points to -/
def Rp : Value → Option (DataW Unit × List MemPlace)
  | .pointer none => some (.nil, [])
  | .pointer (some ⟨b, 0, none⟩) => some (.lit (.int .i64 (b : Int)), [])
  | _ => none
def pd : Option Nat → DataW Unit
  | none => .nil
  | some b => .lit (.int .i64 (b : Int))
def pv : Option Nat → Value
  | none => .pointer none
  | some b => .pointer (some ⟨b, 0, none⟩)
theorem rp_pv (o : Option Nat) : Rp (pv o) = some (pd o, []) := by cases o <;> rfl
theorem rp_inv {v : Value} {o : Option Nat} {ps : List MemPlace} (h : Rp v = some (pd o, ps)) : v = pv o := by
  cases o with
  | none =>
    unfold Rp pd at h
    split at h
    · rfl
    · simp at h
    · simp at h
  | some b =>
    unfold Rp pd at h
    split at h
    · simp at h
    · rename_i b'
      simp at h
      obtain rfl : b' = b := by omega
      rfl
    · simp at h
/-- a map that is asked by names -/
structure Ask (w : World) (g N : Nat) (f : ByteArray → Option Nat) (D : DataW Unit) : Prop where
  own : w.ownsMap Tryd.prog 9 Rp g N D
  ask : ∀ s : ByteArray, s.size ≤ maxLen → D.atKey (.string s.data.toList) .nil = pd (f s)
  non : ∀ s : ByteArray, f s = none → Maps.has D (.string s.data.toList) = false
theorem Ask.block {w w' : World} {g N : Nat} {f : ByteArray → Option Nat} {D : DataW Unit} (h : Ask w g N f D) (hb : w'.heap[g]? = w.heap[g]?) : Ask w' g N f D :=
  ⟨by obtain ⟨es, clock, h1, h2⟩ := h.own; exact ⟨es, clock, hb.trans h1, h2⟩, h.ask, h.non⟩
theorem key_of {s : ByteArray} (hs : s.size ≤ maxLen) : keyOf Tryd.prog 9 (.string s) = some (.string s.data.toList) := by
  simp [keyOf, mapKey, Tryd.underlying9, hs]
theorem keyed : Go.Maps.Keyed Tryd.prog 9 := Go.Maps.string_keyed Tryd.underlying9
theorem zero_p (w : World) : (zeroValue 39).run Tryd.prog w = .ok (.pointer none) w := by
  first | exact Tryd.zeroValue39 w | exact Tryd.zeroValue39
theorem Ask.look {w : World} {g N : Nat} {f : ByteArray → Option Nat} {D : DataW Unit} (h : Ask w g N f D) (s : ByteArray) (hs : s.size ≤ maxLen) :
    (Instr.lookup 33 (.map (some g)) (.string s) false).run Tryd.prog w = .ok (pv (f s)) w := by
  obtain ⟨v, ps, h1, h2⟩ := h.own.lookup keyed Tryd.underlying33 (zero_p w) (zd := .nil) (zp := []) rfl (key_of hs)
  rw [h.ask s hs] at h2
  rw [h1, rp_inv h2]
theorem look_nil (w : World) (s : ByteArray) (hs : s.size ≤ maxLen) : (Instr.lookup 33 (.map none) (.string s) false).run Tryd.prog w = .ok (.pointer none) w :=
  Maps.look_nil false keyed Tryd.underlying33 (zero_p w) (key_of hs)
theorem data_inj {s u : ByteArray} (h : s.data.toList = u.data.toList) : s = u := by
  apply ByteArray.ext
  exact Array.toList_inj.1 h
/-- an entry more -/
theorem Ask.store {w : World} {g N : Nat} {f : ByteArray → Option Nat} {D : DataW Unit} (h : Ask w g N f D) (s : ByteArray) (hs : s.size ≤ maxLen) (b : Nat) (hN : N ≤ 1000000) :
    ∃ w' D', (Instr.mapUpdate 33 (.map (some g)) (.string s) (.pointer (some ⟨b, 0, none⟩))).run Tryd.prog w = .ok () w' ∧ Ask w' g (N + 1) (fun x => if x = s then some b else f x) D' ∧ w.grownBy w' (some g) := by
  obtain ⟨w', h1, h2, h3⟩ := h.own.update keyed Tryd.underlying33 (by unfold maxLen; omega) (key_of hs) (rp_pv (some b))
  refine ⟨w', _, h1, ⟨h2, fun x hx => ?_, fun x hx => ?_⟩, h3⟩
  · by_cases e : x = s
    · subst e
      rw [if_pos rfl, Maps.atKey_put_same (k := .string x.data.toList) h.own.isMap trivial]
    · rw [if_neg e, Maps.atKey_put_other (fun e' => e (data_inj (by injection e'))), h.ask x hx]
  · by_cases e : x = s
    · rw [if_pos e] at hx
      cases hx
    · rw [if_neg e] at hx
      rw [Maps.has_put_other (fun e' => e (data_inj (by injection e')))]
      exact h.non x hx
/-- an entry fewer -/
theorem Ask.strike {w : World} {g N : Nat} {f : ByteArray → Option Nat} {D : DataW Unit} (h : Ask w g N f D) (s : ByteArray) (hs : s.size ≤ maxLen) (ty : TypeId) :
    ∃ w' D', (Builtin.delete_ #[33, 9] ty #[.map (some g), .string s]).run Tryd.prog w = .ok (.tuple #[]) w' ∧ Ask w' g N (fun x => if x = s then none else f x) D' ∧ w.grownBy w' (some g) := by
  obtain ⟨w', h1, h2, h3⟩ := h.own.drop keyed Tryd.underlying33 (key_of hs) ty
  refine ⟨w', _, h1, ⟨h2, fun x hx => ?_, fun x hx => ?_⟩, h3.grown⟩
  · by_cases e : x = s
    · subst e
      rw [if_pos rfl, Maps.atKey_del_same]
      rfl
    · rw [if_neg e, Maps.atKey_del_other (fun e' => e (data_inj (by injection e'))), h.ask x hx]
  · by_cases e : x = s
    · subst e
      exact Maps.has_del_same
    · rw [if_neg e] at hx
      rw [Maps.has_del_other (fun e' => e (data_inj (by injection e')))]
      exact h.non x hx
theorem ask_made (w : World) : Ask (w.alloc (.map #[] 0)) w.heap.size 0 (fun _ => none) (.map []) := ⟨World.ownsMap_made w _ _ _, fun _ _ => rfl, fun _ _ => rfl⟩

theorem Ask.has {w : World} {g N : Nat} {f : ByteArray → Option Nat} {D : DataW Unit} (h : Ask w g N f D) (s : ByteArray) (hs : s.size ≤ maxLen) : Maps.has D (.string s.data.toList) = (f s).isSome := by
  cases hf : f s with
  | none => exact h.non s hf
  | some b =>
    cases hh : Maps.has D (.string s.data.toList) with
    | true => rfl
    | false =>
      have := h.ask s hs
      rw [Maps.atKey_of_not_has hh, hf] at this
      cases this
/-- its keys -/
theorem Ask.keys {w : World} {g N : Nat} {f : ByteArray → Option Nat} {D : DataW Unit} (h : Ask w g N f D) {ks : List ByteArray} (hk : ks.Nodup) (hm : ∀ x, x ∈ ks ↔ (f x).isSome = true) (hl : ∀ x ∈ ks, x.size ≤ maxLen) : (ks.map fun x => x.data.toList).Perm (strKeys D) ∧ Maps.size D = ks.length := by
  obtain ⟨es, hD, hpw, _⟩ := h.own.entries keyed
  obtain ⟨es', hD', hko⟩ := h.own.keysOf
  obtain rfl : es = es' := by rw [hD] at hD'; simpa using hD'
  subst hD
  have hp : (ks.map fun x => x.data.toList).Perm (strKeys (.map es)) := by
    refine perm_strKeys hpw (fun p hp => by obtain ⟨v, hv⟩ := hko p hp; obtain ⟨x, _, hx, _⟩ := Maps.keyOf_str Tryd.underlying9 hv; exact ⟨x, hx⟩) (List.pairwise_map.2 (hk.imp fun hne e => hne (data_inj e))) (fun x => ?_)
    rw [List.mem_map]
    constructor
    · rintro ⟨y, hy, rfl⟩
      rw [h.has y (hl y hy)]
      exact (hm y).1 hy
    · intro hx
      have hxs : x ∈ strKeys (.map es) := by
        rw [Maps.has_eq, List.any_eq_true] at hx
        obtain ⟨p, hp, e⟩ := hx
        exact List.mem_map.2 ⟨p, hp, by rw [WideAt.sameKey_eq e]; rfl⟩
      have hxl := strKeys_le h.own Tryd.underlying9 x hxs
      refine ⟨⟨x.toArray⟩, (hm _).2 ?_, by simp⟩
      rw [← h.has ⟨x.toArray⟩ (show x.toArray.size ≤ maxLen by simpa using hxl)]
      simpa using hx
  refine ⟨hp, ?_⟩
  have := hp.length_eq
  rw [List.length_map] at this
  rw [this]
  show es.length = (es.map _).length
  rw [List.length_map]

/-- a directory's names by its map, or none -/
def Kd (w : World) (N : Nat) (f : ByteArray → Option Nat) : Option Nat → Prop
  | none => ∀ x, f x = none
  | some g => ∃ D, Ask w g N f D
theorem Kd.congr {w : World} {N : Nat} {f f' : ByteArray → Option Nat} {m : Option Nat} (h : Kd w N f m) (e : ∀ x, f x = f' x) : Kd w N f' m := by
  have : f = f' := funext e
  rw [← this]
  exact h
theorem Kd.mono {w : World} {N N' : Nat} {f : ByteArray → Option Nat} {m : Option Nat} (h : Kd w N f m) (hN : N ≤ N') : Kd w N' f m := by
  cases m with
  | none => exact h
  | some g => obtain ⟨D, hD⟩ := h; exact ⟨D, hD.own.mono hN, hD.ask, hD.non⟩
/-- the blocks of what is in a directory -/
def kb (t : List Th) (L : Nm → Nd) (p : Nm) (x : ByteArray) : Option Nat := (T t (p ++ [x])).map fun _ => (L (p ++ [x])).b
/-- a thing as it lies -/
structure Nod (w : World) (N : Nat) (x : Nd) (f : ByteArray → Option Nat) (d : Bool) (s : ByteArray) : Prop where
  box : ∃ ty, w.heap[x.b]? = some (.cells #[.bool (!d), .slice x.A s.size x.c, .map x.m] ty (0, 0))
  row : w.ownsRow 0 5 1 (.slice x.A s.size x.c) s.size (Crc.u8s (Crc.tx s))
  map : Kd w N f x.m
theorem Nod.block {w w' : World} {N : Nat} {x : Nd} {f : ByteArray → Option Nat} {d : Bool} {s : ByteArray} (h : Nod w N x f d s) (hb : ∀ i ∈ own x, w'.heap[i]? = w.heap[i]?) : Nod w' N x f d s := by
  refine ⟨?_, ?_, ?_⟩
  · obtain ⟨ty, h1⟩ := h.box
    exact ⟨ty, (hb _ (by simp [own])).trans h1⟩
  · rcases h.row with ⟨h1, h2⟩
    refine ⟨h1, ?_⟩
    rcases h2 with h0 | ⟨g, cap, cur, e, hB, hh, hr⟩
    · exact .inl h0
    · have hA : x.A = some ⟨g, 0, none⟩ := by injection e
      exact .inr ⟨g, cap, cur, e, hB, (hb g (by simp [own, hA])).trans hh, hr⟩
  · have := h.map
    cases hm : x.m with
    | none => rw [hm] at this; exact this
    | some g =>
      rw [hm] at this
      obtain ⟨D, hD⟩ := this
      exact ⟨D, hD.block (hb g (by simp [own, hm]))⟩
theorem Nod.lt {w : World} {N : Nat} {x : Nd} {f : ByteArray → Option Nat} {d : Bool} {s : ByteArray} (h : Nod w N x f d s) : ∀ i ∈ own x, i < w.heap.size := by
  intro i hi
  simp only [own, List.mem_cons, List.mem_append, Option.mem_toList] at hi
  rcases hi with rfl | hi | hi
  · obtain ⟨ty, h1⟩ := h.box
    exact (Array.getElem?_eq_some_iff.1 h1).1
  · have := h.map
    rw [hi] at this
    obtain ⟨D, hD⟩ := this
    exact hD.own.lt
  · rcases h.row with ⟨_, h0 | ⟨g, cap, cur, e, hB, hh, hr⟩⟩
    · have hA : x.A = none := by injection h0.1
      rw [hA] at hi
      simp at hi
    · have hA : x.A = some ⟨g, 0, none⟩ := by injection e
      rw [hA] at hi
      simp at hi
      subst hi
      exact (Array.getElem?_eq_some_iff.1 hh).1

section
variable {w : World} {N : Nat} {x : Nd} {f : ByteArray → Option Nat} {d : Bool} {s : ByteArray} (h : Nod w N x f d s)
include h
theorem Nod.c0 : w.cell? ⟨x.b, 0, none⟩ = some (.bool (!d)) := by
  obtain ⟨ty, h1⟩ := h.box
  simp [World.cell?, h1]
theorem Nod.c1 : w.cell? ⟨x.b, 1, none⟩ = some (.slice x.A s.size x.c) := by
  obtain ⟨ty, h1⟩ := h.box
  simp [World.cell?, h1]
theorem Nod.c2 : w.cell? ⟨x.b, 2, none⟩ = some (.map x.m) := by
  obtain ⟨ty, h1⟩ := h.box
  simp [World.cell?, h1]
theorem Nod.fr (o : Nat) : w.frozen? ⟨x.b, o, none⟩ = false := by
  obtain ⟨ty, h1⟩ := h.box
  simp [World.frozen?, h1]
theorem Nod.look (z : ByteArray) (hz : z.size ≤ maxLen) : (Instr.lookup 33 (.map x.m) (.string z) false).run Tryd.prog w = .ok (pv (f z)) w := by
  have := h.map
  cases hm : x.m with
  | none =>
    rw [hm] at this
    rw [this z]
    exact look_nil w z hz
  | some g =>
    rw [hm] at this
    obtain ⟨D, hD⟩ := this
    exact hD.look z hz
theorem Nod.blt : x.b < w.heap.size := h.lt _ (by simp [own])
end

/-- a tree as it lies: its things, each apart -/
structure Mem (w : World) (N : Nat) (t : List Th) (L : Nm → Nd) : Prop where
  nod : ∀ p d s, T t p = some (d, s) → Nod w N (L p) (kb t L p) d s
  one : ∀ p v, T t p = some v → (own (L p)).Nodup
  apart : ∀ p q v u, T t p = some v → T t q = some u → p ≠ q → ∀ i ∈ own (L p), i ∉ own (L q)
/-- its blocks -/
def Fp (t : List Th) (L : Nm → Nd) (i : Nat) : Prop := ∃ p v, T t p = some v ∧ i ∈ own (L p)
theorem Mem.lt {w : World} {N : Nat} {t : List Th} {L : Nm → Nd} (h : Mem w N t L) {i : Nat} (hi : Fp t L i) : i < w.heap.size := by
  obtain ⟨p, ⟨d, s⟩, h1, h2⟩ := hi
  exact (h.nod p d s h1).lt i h2
theorem Mem.block {w w' : World} {N : Nat} {t : List Th} {L : Nm → Nd} (h : Mem w N t L) (hb : ∀ i, Fp t L i → w'.heap[i]? = w.heap[i]?) : Mem w' N t L :=
  ⟨fun p d s e => (h.nod p d s e).block fun i hi => hb i ⟨p, _, e, hi⟩, h.one, h.apart⟩
theorem Mem.keep {w w' : World} {N : Nat} {t : List Th} {L : Nm → Nd} (h : Mem w N t L) (hb : Below w.heap.size w w') : Mem w' N t L := h.block fun i hi => hb.block i (h.lt hi)
/-- what stands elsewhere stays -/
theorem Mem.step {w w' : World} {N N' : Nat} {t t' : List Th} {L L' : Nm → Nd} (h : Mem w N t L) (S : Nm → Prop) (hN : N ≤ N')
    (hT : ∀ q, ¬ S q → T t' q = T t q) (hL : ∀ q, ¬ S q → L' q = L q)
    (hH : ∀ q v, T t q = some v → ¬ S q → ∀ i ∈ own (L q), w'.heap[i]? = w.heap[i]?)
    (hC : ∀ q x v, T t q = some v → ¬ S q → kb t' L' q x = kb t L q x)
    (hn : ∀ q d s, S q → T t' q = some (d, s) → Nod w' N' (L' q) (kb t' L' q) d s)
    (h1 : ∀ q v, S q → T t' q = some v → (own (L' q)).Nodup)
    (ha : ∀ q r v u, S q → T t' q = some v → T t' r = some u → r ≠ q → ∀ i ∈ own (L' q), i ∉ own (L' r)) : Mem w' N' t' L' := by
  refine ⟨fun p d s e => ?_, fun p v e => ?_, fun p q v u ep eq hne i hi => ?_⟩
  · by_cases hS : S p
    · exact hn p d s hS e
    · have e' := (hT p hS).symm.trans e
      have := (h.nod p d s e').block (hH p _ e' hS)
      rw [hL p hS]
      exact ⟨this.box, this.row, (this.map.congr fun x => (hC p x _ e' hS).symm).mono hN⟩
  · by_cases hS : S p
    · exact h1 p v hS e
    · rw [hL p hS]
      exact h.one p v ((hT p hS).symm.trans e)
  · by_cases hS : S p
    · exact ha p q v u hS ep eq (fun e => hne e.symm) i hi
    · by_cases hS' : S q
      · intro hi'
        exact ha q p u v hS' eq ep hne i hi' hi
      · rw [hL p hS] at hi
        rw [hL q hS']
        exact h.apart p q v u ((hT p hS).symm.trans ep) ((hT q hS').symm.trans eq) hne i hi

/-- all is as it was, but for some blocks -/
structure Chg (F : Nat → Prop) (w w' : World) : Prop where
  os : w'.os = w.os
  tape : w'.tape = w.tape
  output : w'.output = w.output
  size : w.heap.size ≤ w'.heap.size
  block : ∀ k, k < w.heap.size → ¬ F k → w'.heap[k]? = w.heap[k]?
theorem Chg.refl (F : Nat → Prop) (w : World) : Chg F w w := ⟨rfl, rfl, rfl, Nat.le_refl _, fun _ _ _ => rfl⟩
theorem Chg.of_below {F : Nat → Prop} {w w' : World} (h : Below w.heap.size w w') : Chg F w w' := ⟨h.os, h.tape, h.output, h.size, fun k hk _ => h.block k hk⟩
theorem Chg.trans {F G : Nat → Prop} {a b c : World} (h : Chg F a b) (k : Chg G b c) (hG : ∀ i, G i → F i ∨ a.heap.size ≤ i) : Chg F a c :=
  ⟨k.os.trans h.os, k.tape.trans h.tape, k.output.trans h.output, Nat.le_trans h.size k.size, fun i hi hF => (k.block i (Nat.lt_of_lt_of_le hi h.size) (fun hg => by rcases hG i hg with h' | h'; exact hF h'; omega)).trans (h.block i hi hF)⟩
theorem Chg.then {F : Nat → Prop} {a b c : World} (h : Chg F a b) (k : Below b.heap.size b c) : Chg F a c := h.trans (Chg.of_below (F := fun _ => False) k) (fun _ h => h.elim)
theorem Chg.after {F : Nat → Prop} {a b c : World} (h : Below a.heap.size a b) (k : Chg F b c) : Chg F a c := (Chg.of_below h).trans k (fun _ h => .inl h)
theorem Chg.grown {F : Nat → Prop} {a b : World} {g : Nat} (h : a.grownBy b (some g)) (hg : F g) : Chg F a b := ⟨h.os, h.tape, h.output, h.size, fun k hk hF => h.block k hk (fun e => by injection e with e; subst e; exact hF hg)⟩
theorem Chg.below {F : Nat → Prop} {a b : World} {B : Nat} (h : Chg F a b) (hB : B ≤ a.heap.size) (hF : ∀ i, F i → B ≤ i) : Below B a b := ⟨h.os, h.tape, h.output, h.size, fun k hk => h.block k (by omega) (fun hf => by have := hF k hf; omega)⟩
end Trk
end Go.Proofs.YtafkccdbnfelkaaDoor
/- The library's bodies (internal/stringslite.Clone) as they stand in this program, in plain words. -/
namespace Go.Proofs
open Go.Shelf
def Tryd.cloneA_ren : Go.Shelf.Ren := ⟨fun | 316 => 32 | n => n, fun | 9 => 9 | 3 => 3 | 4 => 4 | 37 => 23 | 0 => 0 | 127 => 68 | 5 => 5 | n => n, fun | n => n⟩
theorem Tryd.cloneA : Go.Proofs.LaysM.n316 Tryd.prog Tryd.cloneA_ren := {
  mixed := by kernel_rfl
  f316 := Tryd.func32.trans (congrArg some (by kernel_rfl))
  t0 := Tryd.underlying0
  a0 := Tryd.isAgg0
  z0 := Tryd.sizeOf0
  v0 := Tryd.zeroValue0
  t3 := Tryd.underlying3
  a3 := Tryd.isAgg3
  z3 := Tryd.sizeOf3
  v3 := Tryd.zeroValue3
  t4 := Tryd.underlying4
  a4 := Tryd.isAgg4
  z4 := Tryd.sizeOf4
  v4 := Tryd.zeroValue4
  t9 := Tryd.underlying9
  a9 := Tryd.isAgg9
  z9 := Tryd.sizeOf9
  v9 := Tryd.zeroValue9
  t37 := Tryd.underlying23
  a37 := Tryd.isAgg23
  z37 := Tryd.sizeOf23
  v37 := Tryd.zeroValue23
  t127 := Tryd.underlying68
  a127 := Tryd.isAgg68
  z127 := Tryd.sizeOf68
  v127 := Tryd.zeroValue68
  t5 := Tryd.underlying5
  a5 := Tryd.isAgg5
  z5 := Tryd.sizeOf5
  v5 := Tryd.zeroValue5
  i0 := by kernel_rfl
  i3 := by kernel_rfl
  i4 := by kernel_rfl
  i5 := by kernel_rfl
  i9 := by kernel_rfl
  i37 := by kernel_rfl
  i127 := by kernel_rfl }
end Go.Proofs
/- The program's way to names. -/
namespace Go.Proofs.YtafkccdbnfelkaaDoor
open Go.RowKit Go.MapKept
namespace Trk
open Tre (Nm Th fi isDirAt dirT goT goF setT dropT)
open Pat (Txs)

/-- a tree in which each thing has its directory -/
structure Wf (t : List Th) : Prop where
  once : Once t
  nm : ∀ x ∈ t, x.1 ≠ [] ∧ Pat.IsNames x.1
  up : ∀ p x v, T t (p ++ [x]) = some v → ∃ s, T t p = some (true, s)
  dat : ∀ p s, T t p = some (true, s) → s = ByteArray.empty
  size : ∀ x ∈ t, x.2.2.size ≤ 268435456

/-- what is told from the k-th names on -/
def rest (t : List Th) (n : Nm) (k : Nat) (d : Bool) : Int := if k = n.length then 0 else if d = false then 6 else goF t n (n.length - k) (k + 1)
theorem goT_rest (t : List Th) (n : Nm) : goT t n = rest t n 0 true := by
  unfold Tre.goT rest
  by_cases h : 0 = n.length
  · rw [if_pos h, ← h]
    rfl
  · rw [if_neg h, if_neg (by simp)]
    rfl
theorem rest_end {t : List Th} {n : Nm} {d : Bool} : rest t n n.length d = 0 := if_pos rfl
theorem rest_file {t : List Th} {n : Nm} {k : Nat} (hk : k < n.length) : rest t n k false = 6 := by
  unfold rest
  rw [if_neg (by omega), if_pos rfl]
theorem take_ne {n : Nm} {k : Nat} (hk : k < n.length) : n.take (k + 1) ≠ [] := fun e => by
  have := congrArg List.length e
  rw [List.length_take] at this
  simp at this
  rw [this] at hk
  simp at hk
theorem rest_none {t : List Th} {n : Nm} {k : Nat} (hk : k < n.length) (h : T t (n.take (k + 1)) = none) : rest t n k true = 4 := by
  unfold rest
  rw [if_neg (by omega), if_neg (by simp), show n.length - k = (n.length - k - 1) + 1 by omega]
  unfold Tre.goF
  rw [(T_no h).2]
theorem rest_some {t : List Th} {n : Nm} {k : Nat} (hk : k < n.length) {v : Bool × ByteArray} (h : T t (n.take (k + 1)) = some v) : rest t n k true = rest t n (k + 1) v.1 := by
  cases hf : fi t (n.take (k + 1)) with
  | none => rw [T_none (take_ne hk) hf] at h; cases h
  | some i =>
    obtain ⟨hi, h2⟩ := T_fi (take_ne hk) hf
    rw [h2] at h
    injection h with h
    have hd : isDirAt t i = v.1 := by unfold Tre.isDirAt; rw [List.getElem?_eq_getElem hi, ← h]
    unfold rest
    rw [if_neg (by omega), if_neg (by simp), show n.length - k = (n.length - (k + 1)) + 1 by omega]
    rw [Tre.goF, hf]
    simp only [hd]
    by_cases he : k + 1 = n.length
    · rw [if_neg (by omega), if_pos he, he, Nat.sub_self]
      rfl
    · rw [if_neg he]
      by_cases hv : v.1 = false
      · rw [if_pos ⟨by omega, hv⟩, if_pos hv]
      · rw [if_neg (fun h => hv h.2), if_neg hv]
theorem right_len {s : ByteArray} (h : Ent.Right (Crc.tx s)) : s.size ≤ maxLen := by
  have := h.1.2
  rw [Crc.tx_len] at this
  unfold maxLen
  omega

/-- what is there, if the way goes there -/
def gv (t : List Th) (L : Nm → Nd) (n : Nm) : Option Nat := if goT t n = 0 then some (L n).b else none
theorem gv_yes {t : List Th} {L : Nm → Nd} {n : Nm} (h : goT t n = 0) : gv t L n = some (L n).b := if_pos h
theorem gv_no {t : List Th} {L : Nm → Nd} {n : Nm} (h : goT t n ≠ 0) : gv t L n = none := if_neg h

set_option maxRecDepth 100000 in
set_option maxHeartbeats 4000000 in
theorem follow_any (w : World) (N b0 c m : Nat) (t : List Th) (L : Nm → Nd) (A : Option Addr) (n : Nm) (hM : Mem w N t L) (hb : (L []).b = b0) (h : Txs w A n) (hn : Pat.IsNames n) (hm : n.length = m) :
    Calls Tryd.prog 21 #[.pointer (some ⟨b0, 0, none⟩), .slice A m c] w fun e w' => e = .returned (.tuple #[pv (gv t L n), .int .i64 (goT t n)]) ∧ w' = w := by
  subst hm
  have hl := h.len
  have H := Lib.hid h
  have HM := Lib.hid hM
  have HN := Lib.hid hn
  have HX := Lib.hid (goT_rest t n)
  clear h hM hn
  go_enter Tryd.func21, Tryd.ntmps21
  go_wp2
  go_loopw [6, 14] (fun x ix wr => ∃ (k : Nat) (d : Bool) (s : ByteArray), k ≤ n.length ∧ x = pv (some (L (n.take k)).b) ∧ ix = .int .i64 (k : Int) ∧ wr = w ∧ T t (n.take k) = some (d, s) ∧ goT t n = rest t n k d) (fun _ ix _ => n.length - (intOf ix).toNat)
  case atStart => exact ⟨0, true, ByteArray.empty, Nat.zero_le _, by rw [List.take_zero, hb]; rfl, rfl, rfl, by rw [List.take_zero, T_root], HX.out⟩
  case round =>
    obtain ⟨k, d, s, hk, rfl, rfl, rfl, hT, hR⟩ := hrel
    by_cases hlt : k < n.length
    · obtain ⟨b, o, rfl, _, hc0⟩ := H.out.at' k hlt
      have hs := right_len (HN.out.2 _ (List.getElem_mem hlt))
      have HD := Lib.hid (HM.out.nod _ _ _ hT)
      have h0 := HD.out.c0
      have h2 := HD.out.c2
      have HK := Lib.hid HD.out.map
      have HT := Lib.hid hT
      have HR := Lib.hid hR
      have HE := Lib.hid (show n.take (k + 1) = n.take k ++ [n[k]] from List.take_succ_eq_append_getElem hlt)
      clear hT hR
      unfold pv
      generalize n[k] = s0 at *
      generalize hx : L (n.take k) = x at *
      cases d with
      | false =>
        simp only [Bool.not_false] at h0
        have h6 := HR.out
        rw [rest_file hlt] at h6
        have HZ := Lib.hid (show (.tuple #[.pointer none, .int .i64 6] : Value) = .tuple #[pv (gv t L n), .int .i64 (goT t n)] by rw [gv_no (by omega), h6]; rfl)
        clear h6
        go_wp2
        refine bodyPost_ret (v := .tuple #[.pointer none, .int .i64 6]) ?_ rfl ⟨by rw [HZ.out], rfl⟩
        simp [results, Tryd.results21, go_sem]
      | true =>
        simp only [Bool.not_true] at h0
        have hlk := HD.out.look s0 hs
        unfold kb at hlk
        rw [← HE.out] at hlk
        cases hv : T t (n.take (k + 1)) with
        | none =>
          rw [hv] at hlk
          simp only [Option.map_none, pv] at hlk
          have h4 := HR.out
          rw [rest_none hlt hv] at h4
          have HZ := Lib.hid (show (.tuple #[.pointer none, .int .i64 4] : Value) = .tuple #[pv (gv t L n), .int .i64 (goT t n)] by rw [gv_no (by omega), h4]; rfl)
          clear hv h4
          go_wp2
          refine bodyPost_ret (v := .tuple #[.pointer none, .int .i64 4]) ?_ rfl ⟨by rw [HZ.out], rfl⟩
          simp [results, Tryd.results21, go_sem]
        | some v =>
          rw [hv] at hlk
          simp only [Option.map_some, pv] at hlk
          have HV := Lib.hid hv
          have h4 := HR.out
          rw [rest_some hlt hv] at h4
          have H4 := Lib.hid h4
          clear hv h4
          go_wp2
          refine ⟨⟨k + 1, v.1, v.2, by omega, rfl, by go_num, by first | rfl | trivial, HV.out, H4.out⟩, by simp [intOf]; omega⟩
    · obtain rfl : k = n.length := by omega
      rw [List.take_length] at hT
      rw [rest_end] at hR
      have HZ := Lib.hid (show (.tuple #[pv (some (L n).b), .int .i64 0] : Value) = .tuple #[pv (gv t L n), .int .i64 (goT t n)] by rw [gv_yes hR, hR])
      rw [List.take_length]
      clear hR
      generalize pv (some (L n).b) = z at *
      go_wp2
      refine bodyPost_ret (v := .tuple #[z, .int .i64 0]) ?_ rfl ⟨by rw [HZ.out], rfl⟩
      simp [results, Tryd.results21, go_sem]
end Trk
end Go.Proofs.YtafkccdbnfelkaaDoor
/- What the program finds at a path. -/
namespace Go.Proofs.YtafkccdbnfelkaaDoor
open Go.RowKit Go.MapKept
namespace Trk
open Tre (Nm Th fi isDirAt dirT goT goF setT dropT fileT)
open Pat (Txs)

theorem rest_zero {t : List Th} {n : Nm} : ∀ (f k : Nat) (v : Bool × ByteArray), n.length - k = f → k ≤ n.length → T t (n.take k) = some v → rest t n k v.1 = 0 → ∃ u, T t n = some u
  | 0, k, v, hf, hk, hv, _ => by
    obtain rfl : k = n.length := by omega
    rw [List.take_length] at hv
    exact ⟨v, hv⟩
  | f + 1, k, (d, s), hf, hk, hv, h0 => by
    have hlt : k < n.length := by omega
    cases d with
    | false => rw [rest_file hlt] at h0; omega
    | true =>
      cases hu : T t (n.take (k + 1)) with
      | none => rw [rest_none hlt hu] at h0; omega
      | some u =>
        rw [rest_some hlt hu] at h0
        exact rest_zero f (k + 1) u (by omega) (by omega) hu h0
theorem goT_some {t : List Th} {n : Nm} (h : goT t n = 0) : ∃ u, T t n = some u := by
  rw [goT_rest] at h
  exact rest_zero n.length 0 (true, ByteArray.empty) (by omega) (by omega) (by rw [List.take_zero, T_root]) h
theorem rest_bound {t : List Th} {n : Nm} : ∀ (f k : Nat) (d : Bool), n.length - k = f → k ≤ n.length → rest t n k d = 0 ∨ rest t n k d = 4 ∨ rest t n k d = 6
  | 0, k, d, hf, hk => by
    obtain rfl : k = n.length := by omega
    exact .inl rest_end
  | f + 1, k, d, hf, hk => by
    have hlt : k < n.length := by omega
    cases d with
    | false => exact .inr (.inr (rest_file hlt))
    | true =>
      cases hu : T t (n.take (k + 1)) with
      | none => exact .inr (.inl (rest_none hlt hu))
      | some u =>
        rw [rest_some hlt hu]
        exact rest_bound f (k + 1) u.1 (by omega) (by omega)
theorem goT_bound (t : List Th) (n : Nm) : goT t n = 0 ∨ goT t n = 4 ∨ goT t n = 6 := by
  rw [goT_rest]
  exact rest_bound n.length 0 true (by omega) (by omega)
theorem dirT_T {t : List Th} {n : Nm} {v : Bool × ByteArray} (h : T t n = some v) : dirT t n = v.1 := by
  unfold Tre.dirT
  by_cases h0 : n = []
  · rw [if_pos h0]
    rw [h0, T_root] at h
    injection h with h
    rw [← h]
  · rw [if_neg h0]
    cases hf : fi t n with
    | none => rw [T_none h0 hf] at h; cases h
    | some i =>
      obtain ⟨hi, h2⟩ := T_fi h0 hf
      rw [h2] at h
      injection h with h
      simp only
      unfold Tre.isDirAt
      rw [List.getElem?_eq_getElem hi, ← h]
theorem fi_of_T {t : List Th} {n : Nm} (h0 : n ≠ []) {v : Bool × ByteArray} (h : T t n = some v) : ∃ i, fi t n = some i := by
  cases hf : fi t n with
  | none => rw [T_none h0 hf] at h; cases h
  | some i => exact ⟨i, rfl⟩
theorem spl_is {s : ByteArray} {l : List ByteArray} (h : Pat.spl s = some l) : Pat.IsNames l := by
  unfold Pat.spl at h
  split at h
  · cases h
  · split at h
    · split at h
      · injection h with h
        subst h
        exact ⟨by simp, fun n hn => by simp at hn⟩
      · split at h
        · rename_i hi
          injection h with h
          subst h
          exact hi
        · cases h
    · cases h

/-- the error of going to a path; what is there -/
def ge (t : List Th) (p : ByteArray) : Int := match Pat.spl p with | none => 3 | some n => goT t n
def gn (t : List Th) (L : Nm → Nd) (p : ByteArray) : Option Nat := match Pat.spl p with | none => none | some n => gv t L n

set_option maxRecDepth 100000 in
set_option maxHeartbeats 4000000 in
theorem goTo_any (w : World) (N b0 : Nat) (t : List Th) (L : Nm → Nd) (p : ByteArray) (hM : Mem w N t L) (hb : (L []).b = b0) (hp : p.size < 4294967281) :
    Calls Tryd.prog 24 #[.pointer (some ⟨b0, 0, none⟩), .string p] w fun e w' => e = .returned (.tuple #[pv (gn t L p), .int .i64 (ge t p)]) ∧ Below w.heap.size w w' := by
  have HM := Lib.hid hM
  clear hM
  go_enter Tryd.func24, Tryd.ntmps24
  go_wp2_with fail
  refine (Pat.split_any w p hp).mono ?_
  rintro e w1 ⟨hb1, h1⟩
  have HB1 := Lib.hid hb1
  clear hb1
  rcases h1 with ⟨l, A, c, hs, rfl, hc, ht⟩ | ⟨hs, rfl⟩
  · have HS := Lib.hid hs
    have HZ := Lib.hid (show (.tuple #[pv (gv t L l), .int .i64 (goT t l)] : Value) = .tuple #[pv (gn t L p), .int .i64 (ge t p)] by unfold gn ge; rw [hs])
    have HF := Lib.hid (follow_any w1 N b0 c l.length t L A l (HM.out.keep HB1.out) hb ht (spl_is hs) rfl)
    clear hs ht hc
    go_wp2_with fail
    refine HF.out.mono ?_
    rintro e w' ⟨rfl, rfl⟩
    generalize pv (gv t L l) = z at *
    generalize goT t l = g at *
    go_wp2
    refine bodyPost_ret (v := .tuple #[z, .int .i64 g]) ?_ rfl ⟨by rw [HZ.out], HB1.out⟩
    simp [results, Tryd.results24, go_sem]
  · have HZ := Lib.hid (show (.tuple #[.pointer none, .int .i64 3] : Value) = .tuple #[pv (gn t L p), .int .i64 (ge t p)] by unfold gn ge; rw [hs]; rfl)
    clear hs
    go_wp2
    refine bodyPost_ret (v := .tuple #[.pointer none, .int .i64 3]) ?_ rfl ⟨by rw [HZ.out], HB1.out⟩
    simp [results, Tryd.results24, go_sem]
end Trk
end Go.Proofs.YtafkccdbnfelkaaDoor
