/- CrcParts: wherever bytes are cut in two. -/
import Derived.Test.YtlieifmbadmolaaCrcLives
import Derived.Deep.RegionHeld3
import Derived.BigCall
namespace Go.Proofs.Ytlieifmbadmolaa
open Go.RowKit Go.MapKept
namespace Crc

theorem get_new {w : World} {o : Obj} {k : Nat} (h : k = w.heap.size) : (w.alloc o).heap[k]? = some o := by
  subst h
  show (w.heap.push o)[w.heap.size]? = _
  simp
theorem get_old {w : World} {o x : Obj} {k : Nat} (h : w.heap[k]? = some x) : (w.alloc o).heap[k]? = some x := (Below.heap_alloc w o k (Array.getElem?_eq_some_iff.1 h).1).trans h
theorem get_drew {w : World} {x : Obj} {k : Nat} (h : w.heap[k]? = some x) : w.drew.heap[k]? = some x := h

theorem Bts.drew {w : World} {A : Option Addr} {l : List Nat} (h : Bts w A l) : Bts w.drew A l := h.keep (Below.refl _ _).drew

theorem pts_at {W : World} {k : Nat} {t : TypeId} (ps : List Prt) (hn : ps.length ≤ 9223372036854775807) (hk : W.heap[k]? = some (.cells (ps.map Prt.val).toArray t)) (h : ∀ i (h : i < ps.length), Bts W ps[i].a ps[i].l) : Pts W (some ⟨k, 0, none⟩) ps :=
  ⟨hn, fun i hi => ⟨k, 0, rfl, (Array.getElem?_eq_some_iff.1 hk).1, by
    unfold World.cell?
    rw [hk]
    simp [Prt.val, List.getElem?_eq_getElem hi]⟩, h⟩

section
variable {W : World} {k cc : Nat} {t : TypeId} {A0 A1 A2 : Option Addr} {n0 n1 n2 c0 c1 c2 : Nat} {l l0 l1 l2 : List Nat}

theorem pts_at1 (hk : W.heap[k]? = some (.cells #[.slice A0 n0 c0] t)) (h0 : Bts W A0 l0) (e0 : n0 = l0.length) : Pts W (some ⟨k, 0, none⟩) [⟨A0, c0, l0⟩] := by
  subst e0
  exact pts_at [⟨A0, c0, l0⟩] (by simp) hk (fun i hi => by
    obtain rfl : i = 0 := by simpa using hi
    exact h0)
theorem pts_at2 (hk : W.heap[k]? = some (.cells #[.slice A0 n0 c0, .slice A1 n1 c1] t)) (h0 : Bts W A0 l0) (h1 : Bts W A1 l1) (e0 : n0 = l0.length) (e1 : n1 = l1.length) : Pts W (some ⟨k, 0, none⟩) [⟨A0, c0, l0⟩, ⟨A1, c1, l1⟩] := by
  subst e0 e1
  exact pts_at [⟨A0, c0, l0⟩, ⟨A1, c1, l1⟩] (by simp) hk (fun i hi => by
    match i, hi with
    | 0, _ => exact h0
    | 1, _ => exact h1)
theorem pts_at3 (hk : W.heap[k]? = some (.cells #[.slice A0 n0 c0, .slice A1 n1 c1, .slice A2 n2 c2] t)) (h0 : Bts W A0 l0) (h1 : Bts W A1 l1) (h2 : Bts W A2 l2) (e0 : n0 = l0.length) (e1 : n1 = l1.length) (e2 : n2 = l2.length) : Pts W (some ⟨k, 0, none⟩) [⟨A0, c0, l0⟩, ⟨A1, c1, l1⟩, ⟨A2, c2, l2⟩] := by
  subst e0 e1 e2
  exact pts_at [⟨A0, c0, l0⟩, ⟨A1, c1, l1⟩, ⟨A2, c2, l2⟩] (by simp) hk (fun i hi => by
    match i, hi with
    | 0, _ => exact h0
    | 1, _ => exact h1
    | 2, _ => exact h2)

theorem bts_nil (W : World) (A : Option Addr) : Bts W A [] := ⟨fun _ h => by simp at h, by simp, fun j h => by simp at h⟩
theorem pts_nil (W : World) (A : Option Addr) : Pts W A [] := ⟨by simp, fun j h => by simp at h, fun j h => by simp at h⟩

theorem s32_nil : S32 (flat []) = 0 := by decide
theorem s16_nil : S16 (flat []) = 65535 := by decide

theorem sum32_nil (W : World) : Calls Try.prog 9 #[.slice none 0 0] W fun e w' => e = .returned (.int .u32 0) ∧ W = w' := by
  have := sum32_any none 0 [] (pts_nil W none)
  rw [s32_nil] at this
  exact this
theorem sum16_nil (W : World) : Calls Try.prog 11 #[.slice none 0 0] W fun e w' => e = .returned (.int .u16 65535) ∧ W = w' := by
  have := sum16_any none 0 [] (pts_nil W none)
  rw [s16_nil] at this
  exact this
theorem sum32_at1 (hk : W.heap[k]? = some (.cells #[.slice A0 n0 c0] t)) (h0 : Bts W A0 l) (e0 : n0 = l.length) :
    Calls Try.prog 9 #[.slice (some ⟨k, 0, none⟩) 1 cc] W fun e w' => e = .returned (.int .u32 (S32 l : Nat)) ∧ W = w' := by
  have := sum32_any _ cc _ (pts_at1 hk h0 e0)
  rw [flat_one] at this
  exact this
theorem sum16_at1 (hk : W.heap[k]? = some (.cells #[.slice A0 n0 c0] t)) (h0 : Bts W A0 l) (e0 : n0 = l.length) :
    Calls Try.prog 11 #[.slice (some ⟨k, 0, none⟩) 1 cc] W fun e w' => e = .returned (.int .u16 (S16 l : Nat)) ∧ W = w' := by
  have := sum16_any _ cc _ (pts_at1 hk h0 e0)
  rw [flat_one] at this
  exact this
theorem sum32_at2 (hk : W.heap[k]? = some (.cells #[.slice A0 n0 c0, .slice A1 n1 c1] t)) (h0 : Bts W A0 l0) (h1 : Bts W A1 l1) (e0 : n0 = l0.length) (e1 : n1 = l1.length) (e : l0 ++ l1 = l) :
    Calls Try.prog 9 #[.slice (some ⟨k, 0, none⟩) 2 cc] W fun e w' => e = .returned (.int .u32 (S32 l : Nat)) ∧ W = w' := by
  have := sum32_any _ cc _ (pts_at2 hk h0 h1 e0 e1)
  rw [show flat [⟨A0, c0, l0⟩, ⟨A1, c1, l1⟩] = l by rw [← e]; simp [flat]] at this
  exact this
theorem sum16_at3 (hk : W.heap[k]? = some (.cells #[.slice A0 n0 c0, .slice none 0 0, .slice A1 n1 c1] t)) (h0 : Bts W A0 l0) (h1 : Bts W A1 l1) (e0 : n0 = l0.length) (e1 : n1 = l1.length) (e : l0 ++ l1 = l) :
    Calls Try.prog 11 #[.slice (some ⟨k, 0, none⟩) 3 cc] W fun e w' => e = .returned (.int .u16 (S16 l : Nat)) ∧ W = w' := by
  have := sum16_any _ cc _ (pts_at3 (l1 := []) hk h0 (bts_nil W none) h1 e0 rfl e1)
  rw [show flat [⟨A0, c0, l0⟩, ⟨none, 0, []⟩, ⟨A1, c1, l1⟩] = l by rw [← e]; simp [flat]] at this
  exact this
end

theorem below_alloc {w W : World} {o : Obj} (h : Below w.heap.size w W) : Below w.heap.size w (W.alloc o) := h.alloc h.size o

set_option maxHeartbeats 12800000 in
set_option maxRecDepth 100000 in
theorem parts_core {w : World} (A B1 B2 : Option Addr) (c : Nat) (l : List Nat) (h : Bts w A l) (_hc : l.length ≤ c) (hn : l.length ≤ 200) (k : Nat) (hk : k < 65536) (q c1 c2 : Nat) (hq0 : q ≤ l.length) (hq1 : (k : Int) % ((l.length : Int) + 1) = (q : Int))
    (hs1 : ∀ W, (Instr.sliceAt 25 (.slice A l.length c) none (some (.int .i64 (q : Int))) none).run Try.prog W = .ok (.slice B1 q c1) W)
    (hs2 : ∀ W, (Instr.sliceAt 25 (.slice A l.length c) (some (.int .i64 (q : Int))) none none).run Try.prog W = .ok (.slice B2 (l.length - q) c2) W)
    (h1 : ∀ W, Bts W A l → Bts W B1 (l.take q)) (h2 : ∀ W, Bts W A l → Bts W B2 (l.drop q)) :
    Calls Try.prog 6 #[.slice A l.length c, .int .u16 (k : Int)] w fun r w' => r = .returned (.bool true) ∧ Below w.heap.size w w' := by
  have hlen := h.len
  have H := Lib.hid h
  have HT := Lib.hid h1
  have HD := Lib.hid h2
  clear h h1 h2
  have HL := Lib.hid (lives_any w)
  go_enter Try.func6, Try.ntmps6
  go_wp2_with fail
  refine HL.out.mono ?_
  rintro e w1 ⟨rfl, hb⟩
  have H1 := Lib.hid (H.out.keep hb)
  have HB := Lib.hid hb
  clear hb
  go_wp2_with fail
  have e0 : q = (l.take q).length := by rw [List.length_take]; omega
  have e1 : l.length - q = (l.drop q).length := by rw [List.length_drop]
  have E0 := Lib.hid e0
  have E1 := Lib.hid e1
  clear e0 e1
  go_region_held3 (fun _ => True) (exact trivial) (first
    | (go_at_call 9
       with_reducible refine (sum32_nil _).mono ?_
       rintro e w' ⟨rfl, rfl⟩)
    | (go_at_call 11
       with_reducible refine (sum16_nil _).mono ?_
       rintro e w' ⟨rfl, rfl⟩)
    | (go_at_call 9
       with_reducible refine (sum32_at2 (l := l) (l0 := l.take q) (l1 := l.drop q) (t := 25) (A0 := B1) (A1 := B2) (n0 := q) (n1 := l.length - q) (c0 := c1) (c1 := c2) ?_ ?_ ?_ E0.out E1.out (List.take_append_drop q l)).mono ?_
       · repeat (first | (with_reducible refine get_new ?_; simp; done) | with_reducible refine get_drew ?_ | with_reducible refine get_old ?_)
       · refine HT.out _ ?_
         repeat (first | with_reducible exact H1.out | with_reducible refine Bts.drew ?_ | with_reducible refine Bts.alloc ?_ _)
       · refine HD.out _ ?_
         repeat (first | with_reducible exact H1.out | with_reducible refine Bts.drew ?_ | with_reducible refine Bts.alloc ?_ _)
       rintro e w' ⟨rfl, rfl⟩)
    | (go_at_call 9
       with_reducible refine (sum32_at1 (l := l) (t := 25) (A0 := A) (n0 := l.length) (c0 := c) ?_ ?_ rfl).mono ?_
       · repeat (first | (with_reducible refine get_new ?_; simp; done) | with_reducible refine get_drew ?_ | with_reducible refine get_old ?_)
       · repeat (first | with_reducible exact H1.out | with_reducible refine Bts.drew ?_ | with_reducible refine Bts.alloc ?_ _)
       rintro e w' ⟨rfl, rfl⟩)
    | (go_at_call 11
       with_reducible refine (sum16_at3 (l := l) (l0 := l.take q) (l1 := l.drop q) (t := 25) (A0 := B1) (A1 := B2) (n0 := q) (n1 := l.length - q) (c0 := c1) (c1 := c2) ?_ ?_ ?_ E0.out E1.out (List.take_append_drop q l)).mono ?_
       · repeat (first | (with_reducible refine get_new ?_; simp; done) | with_reducible refine get_drew ?_ | with_reducible refine get_old ?_)
       · refine HT.out _ ?_
         repeat (first | with_reducible exact H1.out | with_reducible refine Bts.drew ?_ | with_reducible refine Bts.alloc ?_ _)
       · refine HD.out _ ?_
         repeat (first | with_reducible exact H1.out | with_reducible refine Bts.drew ?_ | with_reducible refine Bts.alloc ?_ _)
       rintro e w' ⟨rfl, rfl⟩)
    | (go_at_call 11
       with_reducible refine (sum16_at1 (l := l) (t := 25) (A0 := A) (n0 := l.length) (c0 := c) ?_ ?_ rfl).mono ?_
       · repeat (first | (with_reducible refine get_new ?_; simp; done) | with_reducible refine get_drew ?_ | with_reducible refine get_old ?_)
       · repeat (first | with_reducible exact H1.out | with_reducible refine Bts.drew ?_ | with_reducible refine Bts.alloc ?_ _)
       rintro e w' ⟨rfl, rfl⟩))
  all_goals go_wp2
  all_goals go_ret
  all_goals refine ⟨rfl, ?_⟩
  all_goals repeat (first | with_reducible exact HB.out | with_reducible refine Below.drew ?_ | with_reducible refine below_alloc ?_)

theorem parts_long (w : World) (A : Option Addr) (c n : Nat) (hn : ¬ n ≤ 200) (hm : n ≤ 9223372036854775807) (k : Nat) :
    Calls Try.prog 6 #[.slice A n c, .int .u16 (k : Int)] w fun r w' => r = .returned (.bool true) ∧ Below w.heap.size w w' := by
  have HL := Lib.hid (lives_any w)
  go_enter Try.func6, Try.ntmps6
  go_wp2_with fail
  refine HL.out.mono ?_
  rintro e w1 ⟨rfl, hb⟩
  have HB := Lib.hid hb
  have HL2 := Lib.hid (lives_any w1)
  clear hb
  go_wp2_with fail
  refine HL2.out.mono ?_
  rintro e w2 ⟨rfl, hb2⟩
  have HB2 := Lib.hid hb2
  clear hb2
  go_wp2
  go_ret
  exact ⟨rfl, HB.out.trans (HB2.out.mono HB.out.size)⟩

theorem size_el (W : World) : (sizeOf (Try.prog.elem 25)).run Try.prog W = .ok 1 W := by kernel_rfl
theorem und_sl : Try.prog.underlying 25 = some (.slice (Try.prog.elem 25)) := by kernel_rfl

theorem parts_any {w : World} (A : Option Addr) (c : Nat) (l : List Nat) (h : Bts w A l) (hc : l.length ≤ c) (k : Nat) (hk : k < 65536) :
    Calls Try.prog 6 #[.slice A l.length c, .int .u16 (k : Int)] w fun r w' => r = .returned (.bool true) ∧ Below w.heap.size w w' := by
  by_cases hn : l.length ≤ 200
  · have hq0 : k % (l.length + 1) ≤ l.length := Nat.le_of_lt_succ (Nat.mod_lt _ (by omega))
    have hq1 : (k : Int) % ((l.length : Int) + 1) = ((k % (l.length + 1) : Nat) : Int) := rfl
    generalize k % (l.length + 1) = q at *
    refine parts_core A (if c = 0 then A else A.map (·.add (0 * 1))) (if c = q then A else A.map (·.add (q * 1))) c l h hc hn k hk q c (c - q) hq0 hq1 (fun W => ?_) (fun W => ?_) (fun W hb => ?_) (fun W hb => ?_)
    · rw [run_sliceAt_slice _ _ _ _ _ _ und_sl, run_slice_h _ _ _ _ _ und_sl .i64 (q : Int) (by omega) (by omega), size_el]
      rfl
    · rw [run_sliceAt_slice _ _ _ _ _ _ und_sl, run_slice_l _ _ _ _ _ und_sl .i64 (q : Int) (by omega) (by omega), size_el]
      rfl
    · refine ⟨hb.byt.take q, by rw [List.length_take]; omega, fun j hj => ?_⟩
      rw [List.length_take] at hj
      obtain ⟨b, o, rfl, h1, h2⟩ := hb.at' j (by omega)
      refine ⟨b, o, ?_, h1, ?_⟩
      · split
        · rfl
        · rw [Option.map_some, Go.WideShapes.add_plain]
          rfl
      · rw [List.getElem_take]
        exact h2
    · refine ⟨fun b hm => hb.byt b (List.mem_of_mem_drop hm), by rw [List.length_drop]; omega, fun j hj => ?_⟩
      rw [List.length_drop] at hj
      obtain ⟨b, o, rfl, h1, h2⟩ := hb.at' (q + j) (by omega)
      refine ⟨b, o + q, ?_, h1, ?_⟩
      · rw [if_neg (by omega), Option.map_some, Go.WideShapes.add_plain, Nat.mul_one]
      · rw [List.getElem_drop, Nat.add_assoc]
        exact h2
  · exact parts_long w A c l.length hn h.len k
end Crc
end Go.Proofs.Ytlieifmbadmolaa
