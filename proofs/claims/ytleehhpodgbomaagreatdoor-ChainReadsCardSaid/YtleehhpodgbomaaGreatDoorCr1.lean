/- Texts laid together: VolInode, VolStill, VolRefRead, ChnRef, ChnRefBlk, ChnFind, ChnReadsLaw. -/
import Derived.Test.YtleehhpodgbomaaGreatDoorCt8
import Derived.Test.YtleehhpodgbomaaGreatDoorCt6
import Derived.Test.YtleehhpodgbomaaGreatDoorCt7
import Derived.Test.YtleehhpodgbomaaGreatDoorCt2
import Derived.Test.YtleehhpodgbomaaGreatDoorCt3
import Derived.Test.YtleehhpodgbomaaGreatDoorCt11
import Derived.IntWalk
import Derived.Test.YtleehhpodgbomaaGreatDoorCt1
import Derived.Test.YtleehhpodgbomaaGreatDoorCt4
import Derived.Test.YtleehhpodgbomaaGreatDoorCt5
import Derived.Test.YtleehhpodgbomaaGreatDoorCt9
import Derived.Test.YtleehhpodgbomaaGreatDoorCt10
import Derived.Test.YtleehhpodgbomaaGreatDoorCl1
/- A volume's inodes: read and written. -/
namespace Go.Proofs.YtleehhpodgbomaaGreatDoor
open Go.RowKit Go.MapKept
namespace Vol
theorem row_words {w : World} {g n : Nat} {l : List Nat} (h : w.rowIs g 71 n (fun i => .int .u64 ((l[i]?.getD 0 : Nat) : Int))) (hl : l.length = n) (hn : n ≤ 4194304) (hu : ∀ x ∈ l, x < 18446744073709551616) : Pack.Wds w (some ⟨g, 0, none⟩) l :=
  ⟨hu, by omega, fun j hj => ⟨g, 0, rfl, h.lt, by
    rw [Nat.zero_add, h.cell (by omega), List.getElem?_eq_getElem hj]
    rfl⟩⟩
theorem bel_d (V : World) : Below V.heap.size V V.drew := ⟨rfl, rfl, rfl, Nat.le_refl _, fun _ _ => rfl⟩
section
variable {Q Q' : Nat → Prop} {w w' : World} {vb a n m s : Nat} {W : List Nat} {st sn : Nat}
/-- the stores of words, all at once -/
theorem write_sto (h : Vo Q w vb a n m s W st sn) {w1 w2 : World} (hb : Below w.heap.size w w1) {gs f L : Nat} {l : List Nat} (hg : w1.heap.size ≤ gs) (hS : Sts w2 gs (sto f l)) (hb2 : Below w1.heap.size w1 w2) (hl : l.length = L) (hin : f + L ≤ W.length) (hu : ∀ x ∈ l, x < 18446744073709551616) (hs : st + 2 * L < 100000000000) :
    Calls Tryz.prog 42 #[.agg #[.pointer (some ⟨a, 0, none⟩)], .slice (some ⟨gs, 0, none⟩) L L] w2 fun r w' =>
      r = .returned (.int .i64 0) ∧ Vo Q w' vb a n m s (puts W (sto f l)) (st + L + lc f L) (sn + L) ∧ Kq Q w w' := by
  have hsl : (sto f l).length = L := by rw [sto_len, hl]
  have hsz := h.up.size
  have hw := write_any ((h.up.keep hb).grow hb2) gs L (sto f l) hS (.inr ⟨hg, hS.lt⟩) (fun t ht => ⟨sto_lt (by rw [hl]; exact hin) t ht, sto_u64 hu t ht⟩) (by rw [hsl]; omega) (by rw [hsl]; omega)
  rw [hsl, sto_lc, hl] at hw
  refine hw.mono ?_
  rintro r w3 ⟨rfl, hup, hk⟩
  have hk2 := (kq_below (Q := Q) (hb.trans (hb2.mono hb.size))).trans (hk.sub (fun k h => .inl h))
  exact ⟨rfl, h.next (hup.sub (fun k h => .inl h)) hk2 (puts_len _ _), hk2⟩

theorem inode_place (h : Vo Q w vb a n m s W st sn) (i : Nat) (hi : i < m) (w' : World) : Calls Tryz.prog 120 #[.agg #[.int .i64 n, .int .i64 m, .int .i64 s], .int .i64 (i : Int)] w' fun r w'' => r = .returned (.int .i64 ((16 + 8 * i : Nat) : Int)) ∧ Below w'.heap.size w' w'' := by
  have hp := Geo.inode_any w' (n : Int) (m : Int) (s : Int) (i : Int)
  rw [Geo.plc_yes h.may (by omega) (by omega), show (16 : Int) + (i : Int) * 8 = ((16 + 8 * i : Nat) : Int) by omega] at hp
  exact hp
theorem inode_none {i : Int} (h : i < 0 ∨ (m : Int) ≤ i) (w : World) : Calls Tryz.prog 120 #[.agg #[.int .i64 n, .int .i64 m, .int .i64 s], .int .i64 i] w fun r w'' => r = .returned (.int .i64 (-1)) ∧ Below w.heap.size w w'' := by
  have hp := Geo.inode_any w (n : Int) (m : Int) (s : Int) i
  rw [Geo.plc_out (by omega)] at hp
  exact hp
/-- an inode's line is within -/
theorem inode_in (h : Vo Q w vb a n m s W st sn) {i : Nat} (hi : i < m) : 16 + 8 * i + 8 ≤ W.length ∧ i ≤ 65534 := by
  obtain ⟨h1, h2, h3⟩ := h.num
  have h4 := Geo.bm_bounds h1 h2
  have h5 := Geo.bk_bounds h1 h2
  have h6 := Geo.fin_bounds h1 h2 h3
  have h7 := h.len
  unfold Geo.fin at h7
  omega
theorem gv_ino (q : Option (Nat × Nat × Nat)) : ∃ x y z : Int, Ino.gv q = .agg #[.int .i64 x, .int .i64 y, .int .i64 z] := by
  cases q with
  | none => exact ⟨0, -1, 0, rfl⟩
  | some t => exact ⟨_, _, _, rfl⟩

end
end Vol
end Go.Proofs.YtleehhpodgbomaaGreatDoor
/- Law 15's wrote and still. -/
namespace Go.Proofs.YtleehhpodgbomaaGreatDoor
open Go.RowKit Go.MapKept
namespace Vol
section
variable {Q : Nat → Prop} {w : World} {vb a n m s sl bm bk E : Nat} {W : List Nat} {sn : Nat}

theorem below_d (V : World) : Below V.heap.size V V.drew := ⟨rfl, rfl, rfl, Nat.le_refl _, fun _ _ => rfl⟩
theorem below_dn (V : World) (q : Nat) : Below V.heap.size V (V.drewN q) := ⟨rfl, rfl, rfl, Nat.le_refl _, fun _ _ => rfl⟩
theorem lsame_any {A B : Option Addr} {c d : Nat} {l : List Nat} {w : World} (h : Pack.Wds w A l) (g : Pack.Wds w B l) :
    Calls Tryz.prog 73 #[.slice A l.length c, .slice B l.length d] w fun e w' => e = .returned (.bool true) ∧ ∃ n, w' = w.drewN n := by
  have hs := Pack.same_any A B c d l l h g
  rw [decide_eq_true rfl] at hs
  exact hs

end
end Vol
end Go.Proofs.YtleehhpodgbomaaGreatDoor
/- The document's inode, slot, map, record and block of a volume's words. -/
namespace Go.Proofs.YtleehhpodgbomaaGreatDoor
open Go.RowKit Go.MapKept
namespace Vol
/-- a part of a row of words -/
theorem wds_part {w : World} {g f k : Nat} {W : List Nat} (h : Pack.Wds w (some ⟨g, 0, none⟩) W) (hf : f + k ≤ W.length) : Pack.Wds w (some ⟨g, f, none⟩) (rdw W f k) := by
  refine ⟨rdw_u64 h.u64 f k, by rw [rdw_len]; have := h.len; omega, fun j hj => ?_⟩
  rw [rdw_len] at hj
  obtain ⟨b, o, e, hb, hc⟩ := h.at' (f + j) (by omega)
  injection e with e
  injection e with e1 e2
  subst e1 e2
  refine ⟨g, f, rfl, hb, ?_⟩
  rw [rdw_get, List.getElem?_eq_getElem (by omega), Option.getD_some]
  rw [Nat.zero_add] at hc
  exact hc

section
variable {w : World} {n m s sl bm bk E : Nat} {W : List Nat}
set_option maxHeartbeats 2000000 in
set_option maxRecDepth 100000 in
theorem rslot_no (w : World) (v : Value) (i : Int) (hi : i < 0 ∨ (n : Int) ≤ i) :
    Calls Tryz.prog 33 #[.agg (dv n m s sl bm bk E v), .int .i64 i] w fun r w' => r = .returned (.tuple #[.agg #[.int .i64 0, .int .i64 0, .int .i64 0], .bool false]) ∧ Below w.heap.size w w' := by
  have hb0 := (Below.refl w.heap.size w).alloc (Nat.le_refl _) (.cells (dv n m s sl bm bk E v) 30)
  have HX := Lib.hid (hb_new (w.alloc (.cells (dv n m s sl bm bk E v) 30)) #[.int .i64 0, .int .i64 0, .int .i64 0] 57)
  rw [World.size_alloc] at HX
  have HB := Lib.hid (hb0.alloc hb0.size (.cells #[.int .i64 0, .int .i64 0, .int .i64 0] 57))
  clear hb0
  unfold dv at HX HB ⊢
  have c0 := HX.out.cell 0
  have c1 := HX.out.cell 1
  have c2 := HX.out.cell 2
  go_enter Tryz.func33, Tryz.ntmps33
  rcases hi with hi | hi
  · go_wp2_with fail
    refine bodyPost_ret (v := .tuple #[.agg #[.int .i64 0, .int .i64 0, .int .i64 0], .bool false]) ?_ rfl ⟨rfl, HB.out⟩
    simp [results, Tryz.results33, go_sem, c0, c1, c2]
  · have hd2 : decide ((n : Int) ≤ i) = true := decide_eq_true hi
    go_wp2_with fail
    all_goals
      refine bodyPost_ret (v := .tuple #[.agg #[.int .i64 0, .int .i64 0, .int .i64 0], .bool false]) ?_ rfl ⟨rfl, HB.out⟩
      simp [results, Tryz.results33, go_sem, c0, c1, c2]

set_option maxHeartbeats 2000000 in
set_option maxRecDepth 100000 in
theorem rslot_yes (w : World) (g gc : Nat) (hW : Pack.Wds w (some ⟨g, 0, none⟩) W) (hWE : W.length = E) (i F : Nat) (hi : i < n) (hF : F = sl + i) (hin : F < E) (hE : E ≤ 1000) :
    Calls Tryz.prog 33 #[.agg (dv n m s sl bm bk E (.slice (some ⟨g, 0, none⟩) E gc)), .int .i64 (i : Int)] w fun r w' => r = .returned (Slo.rv (Slo.dec (W[F]?.getD 0))) ∧ Below w.heap.size w w' := by
  have hb0 := (Below.refl w.heap.size w).alloc (Nat.le_refl _) (.cells (dv n m s sl bm bk E (.slice (some ⟨g, 0, none⟩) E gc)) 30)
  have HX := Lib.hid (hb_new w (dv n m s sl bm bk E (.slice (some ⟨g, 0, none⟩) E gc)) 30)
  have HB0 := Lib.hid hb0
  have HW := Lib.hid hW
  clear hb0
  have hcell := fun (w' : World) (hb : Below w.heap.size w w') => (HW.out.keep hb).at' F (by omega)
  have hx : W[F]?.getD 0 < 18446744073709551616 := at_lt hW.u64 F
  rw [List.getElem?_eq_getElem (by omega), Option.getD_some] at hx ⊢
  generalize W[F] = x at *
  have HD := Lib.hid (fun w => Slo.refDecode_any w x hx)
  obtain ⟨g0, g1, g2, hg⟩ := gv_three (Slo.dec x)
  unfold Slo.rv at HD ⊢
  rw [hg] at HD ⊢
  generalize (Slo.dec x).isSome = is at *
  have hsum : (sl : Int) + (i : Int) = (F : Int) := by omega
  have hd1 : decide ((i : Int) < 0) = false := decide_eq_false (by omega)
  have hd2 : decide ((n : Int) ≤ (i : Int)) = false := decide_eq_false (by omega)
  have hd3 : decide (n ≤ i) = false := decide_eq_false (by omega)
  have hF0 : (0 : Int) ≤ (F : Int) := by omega
  have hF1 : (F : Int) < (E : Int) := by omega
  have hFE : sl ≤ 1000 ∧ i ≤ 1000 := by omega
  clear hg hF hi hW
  unfold dv at HX HB0 ⊢
  go_enter Tryz.func33, Tryz.ntmps33
  obtain ⟨w0, hw0⟩ : ∃ w0, w0 = w.alloc (.cells #[.int .i64 (n : Int), .int .i64 (m : Int), .int .i64 (s : Int), .int .i64 16, .int .i64 (sl : Int), .int .i64 (bm : Int), .int .i64 (bk : Int), .int .i64 (E : Int), .slice (some ⟨g, 0, none⟩) E gc] 30) := ⟨_, rfl⟩
  rw [← hw0] at HX HB0
  have hz0 : w0.heap.size = w.heap.size + 1 := by rw [hw0, World.size_alloc]
  have hb1 := HB0.out.alloc HB0.out.size (.cells #[.int .i64 0, .int .i64 0, .int .i64 0] 57)
  have hx1 := hb_new w0 #[.int .i64 0, .int .i64 0, .int .i64 0] 57
  rw [hz0] at hx1
  obtain ⟨_, _, he, _, hcl⟩ := hcell _ hb1
  injection he with he
  injection he with he1 he2
  subst he1 he2
  rw [Nat.zero_add] at hcl
  have HB1 := Lib.hid hb1
  have HX1 := Lib.hid hx1
  clear hb1 hx1 hcell
  rw [hw0] at hcl
  go_wp2_with fail
  rw [← hw0] at hcl
  rw [← hw0]
  clear hw0
  generalize w0.alloc (.cells #[.int .i64 0, .int .i64 0, .int .i64 0] 57) = w1 at *
  refine (HD.out _).mono ?_
  rintro r w2 ⟨rfl, hb⟩
  have HB2 := Lib.hid (HB1.out.trans (hb.mono HB1.out.size))
  have HX2 := Lib.hid (HX1.out.keep hb)
  clear hb hcl
  have c0 := HX2.out.cell 0
  have c1 := HX2.out.cell 1
  have c2 := HX2.out.cell 2
  have f0 := HX2.out.frozen 0
  have f1 := HX2.out.frozen 1
  have f2 := HX2.out.frozen 2
  have hl2 := HX2.out.lt
  go_wp2
  refine bodyPost_ret (v := .tuple #[.agg #[.int .i64 g0, .int .i64 g1, .int .i64 g2], .bool is]) ?_ rfl ⟨rfl, ?_⟩
  · simp [results, Tryz.results33, go_sem, c0, c1, c2]
  · exact ((HB2.out.setCell (Nat.le_succ _) _).setCell (Nat.le_succ _) _).setCell (Nat.le_succ _) _

theorem gv_rrec (q : Option (Nat × Nat × Nat × Nat)) : ∃ x y z t : Int, Rec.gv q = .agg #[.int .i64 x, .int .i64 y, .int .i64 z, .int .i64 t] := by
  cases q with
  | none => exact ⟨0, 0, 0, 0, rfl⟩
  | some t => exact ⟨_, _, _, _, rfl⟩
/-- what the document's map of words is -/
def RfP (n : Nat) (l : List Nat) (A : Option Addr) (t : Nat) (is : Bool) (w' : World) : Prop :=
  (Bm.Good n l ∧ is = true ∧ t = n ∧ ∃ q, Bm.Bls w' q A n (Bm.fo n l)) ∨ (¬ Bm.Good n l ∧ is = false)
end
end Vol
end Go.Proofs.YtleehhpodgbomaaGreatDoor
/- The document's chain: in, Read, Blocks. -/
namespace Go.Proofs.YtleehhpodgbomaaGreatDoor
open Go.RowKit Go.MapKept
namespace Chn
open Vol (Vo Up Kq Hb hb_new hb_grown hb_apart Ov Pl gn gs dv rawW rawW_len)

set_option maxHeartbeats 1000000 in
set_option maxRecDepth 100000 in
theorem rin_any (w : World) (A : Option Addr) (c : Nat) (l : List Int) (x : Int) (h : Pack.Nts w A l) :
    Calls Tryz.prog 34 #[.slice A l.length c, .int .i64 x] w fun r w' => r = .returned (.bool (decide (x ∈ l))) ∧ Below w.heap.size w w' := by
  have H := Lib.hid h
  have hl := h.len
  obtain ⟨M, hM⟩ : ∃ M, M = decide (x ∈ l) := ⟨_, rfl⟩
  rw [← hM]
  have HM := Lib.hid hM
  clear h hM
  go_enter Tryz.func34, Tryz.ntmps34
  go_wp2
  go_loopw [9] (fun i wr => ∃ m : Nat, m ≤ l.length ∧ i = .int .i64 (m : Int) ∧ x ∉ l.take m ∧ Below w.heap.size w wr) (fun i _ => l.length - (intOf i).toNat)
  case atStart => exact ⟨0, Nat.zero_le _, rfl, by simp, Below.refl _ _⟩
  case round =>
    obtain ⟨m, hm, rfl, hx, hb⟩ := hrel
    by_cases hlt : m < l.length
    · obtain ⟨b, o, rfl, hbb, hc0⟩ := H.out.at' m hlt
      have hc0 := (hb.cell (p := ⟨b, o + m, none⟩) hbb).trans hc0
      have hbb := Nat.lt_of_lt_of_le hbb hb.size
      have HTK := Lib.hid (show l.take (m + 1) = l.take m ++ [l[m]] from List.take_succ_eq_append_getElem hlt)
      have HIN := Lib.hid (show l[m] ∈ l from List.getElem_mem hlt)
      generalize l[m] = y at *
      have HX := Lib.hid hx
      by_cases hxy : x = y
      · subst hxy
        have HMT := Lib.hid (show M = true by rw [HM.out]; exact decide_eq_true HIN.out)
        go_wp2
        go_ret
        exact ⟨by rw [HMT.out]; rfl, hb⟩
      · have hxyb : (x == y) = false := beq_eq_false_iff_ne.2 hxy
        have HNE := Lib.hid hxy
        clear hxy
        go_wp2
        refine ⟨⟨m + 1, by omega, by go_num, ?_, hb⟩, by simp [intOf]; omega⟩
        rw [HTK.out]
        simp only [List.mem_append, List.mem_singleton, not_or]
        exact ⟨HX.out, HNE.out⟩
    · obtain rfl : m = l.length := by omega
      rw [List.take_length] at hx
      have HMF := Lib.hid (show M = false by rw [HM.out]; exact decide_eq_false hx)
      go_wp2
      go_ret
      exact ⟨by rw [HMF.out]; rfl, hb⟩

theorem rpart_info : (Tryz.prog.info? 57).map (fun i => (i.zero, i.size, i.bytes)) = some (some (.agg #[.int .i64 0, .int .i64 0, .int .i64 0]), 3, 24) := by kernel_rfl
/-- the boxes and rows of the document's Read under way -/
structure Rq (w : World) (D : Array Value) (l : List Pt) (A : Option Addr) (c : Nat) (B : Option Addr) (d : Nat) (wr : World) : Prop where
  vol : Hb wr w.heap.size D 30
  res : Hb wr (w.heap.size + 1) #[.slice none 0 0, .slice none 0 0] 46
  box : Hb wr (w.heap.size + 1 + 1) #[.slice A l.length c, .slice B l.length d] 46
  ints : wr.ownsRow w.heap.size 3 1 (.slice A l.length c) l.length (Pack.i64s (slots l))
  prts : wr.ownsRow w.heap.size 57 3 (.slice B l.length d) l.length (pcells l)
  below : Below w.heap.size w wr
theorem Rq.keep {w w1 w2 : World} {D : Array Value} {l : List Pt} {A B : Option Addr} {c d : Nat} (h : Rq w D l A c B d w1) (hb : Below w1.heap.size w1 w2) : Rq w D l A c B d w2 :=
  ⟨h.vol.keep hb, h.res.keep hb, h.box.keep hb, own_keep3 h.ints hb, own_keep3 h.prts hb, h.below.trans (hb.mono h.below.size)⟩
theorem nts_of {w w1 : World} {D : Array Value} {l : List Pt} {A B : Option Addr} {c d n : Nat} (h : Rq w D l A c B d w1) (hl : ∀ p ∈ l, p.s < n) (hn : n ≤ 1000000) (hll : l.length ≤ 1000000) : Pack.Nts w1 A (slots l) :=
  Pack.own_nts h.ints (fun x hx => by
    obtain ⟨p, hp, rfl⟩ := List.mem_map.1 hx
    have := hl p hp
    omega) (by omega)
/-- what the document's Read leaves -/
def RrTo (n : Nat) (f : Nat → Option (Nat × Nat × Nat)) (h : Int) (w : World) (r : Ending) (w' : World) : Prop :=
  match rd (pat f n) n h with
  | none => r = .returned (.tuple #[.agg #[.slice none 0 0, .slice none 0 0], .bool false]) ∧ Below w.heap.size w w'
  | some l => ∃ (A : Option Addr) (c : Nat) (B : Option Addr) (d : Nat), r = .returned (.tuple #[.agg #[.slice A l.length c, .slice B l.length d], .bool true]) ∧ Pack.Nts w' A (slots l) ∧ Prt w' B l ∧ l.length ≤ c ∧ l.length ≤ d ∧ Below w.heap.size w w'
theorem RrTo.none {n : Nat} {f : Nat → Option (Nat × Nat × Nat)} {h : Int} {w w' : World} {r : Ending} (hn : rd (pat f n) n h = Option.none) (hr : r = .returned (.tuple #[.agg #[.slice Option.none 0 0, .slice Option.none 0 0], .bool false])) (hb : Below w.heap.size w w') : RrTo n f h w r w' := by
  unfold RrTo
  rw [hn]
  exact ⟨hr, hb⟩
theorem RrTo.some {n : Nat} {f : Nat → Option (Nat × Nat × Nat)} {h : Int} {w w' : World} {r : Ending} {l : List Pt} {A B : Option Addr} {c d : Nat} (hn : rd (pat f n) n h = Option.some l) (hr : r = .returned (.tuple #[.agg #[.slice A l.length c, .slice B l.length d], .bool true])) (h1 : Pack.Nts w' A (slots l)) (h2 : Prt w' B l) (h3 : l.length ≤ c) (h4 : l.length ≤ d) (hb : Below w.heap.size w w') : RrTo n f h w r w' := by
  unfold RrTo
  rw [hn]
  exact ⟨A, c, B, d, hr, h1, h2, h3, h4, hb⟩
theorem mem_slots {l : List Pt} {i : Nat} : (i : Int) ∈ slots l ↔ ∃ p ∈ l, p.s = i := by
  unfold slots
  rw [List.mem_map]
  constructor
  · rintro ⟨p, hp, e⟩; exact ⟨p, hp, by omega⟩
  · rintro ⟨p, hp, e⟩; exact ⟨p, hp, by omega⟩

set_option maxHeartbeats 4000000 in
set_option maxRecDepth 100000 in
theorem rread_any (w : World) {n m s sl bm bk E g gc : Nat} {W : List Nat} (hpl : Pl n m s sl bm bk E) (hW : Pack.Wds w (some ⟨g, 0, none⟩) W) (hWE : W.length = E) (hd : Int) :
    Calls Tryz.prog 11 #[.agg (dv n m s sl bm bk E (.slice (some ⟨g, 0, none⟩) E gc)), .int .i64 hd] w (RrTo n (fw W sl) hd w) := by
  have HPL := Lib.hid hpl
  have HS15 := Lib.hid (fun w' (hb : Below w.heap.size w w') (i : Nat) (hi : i < n) => Vol.rslot_yes (m := m) (s := s) (sl := sl) (bm := bm) (bk := bk) w' g gc (hW.keep hb) hWE i (sl + i) hi rfl (by have := hpl.at; omega) (by have := hpl.at; omega))
  have hn20 := hpl.n20
  obtain ⟨f, hf⟩ : ∃ f, f = fw W sl := ⟨_, rfl⟩
  have HF := Lib.hid hf
  rw [← hf]
  clear hf hW hWE hpl
  go_enter Tryz.func11, Tryz.ntmps11
  unfold dv
  go_wp2_with fail
  have HR := Lib.hid (show Rq w (dv n m s sl bm bk E (.slice (some ⟨g, 0, none⟩) E gc)) [] none 0 none 0 (((w.alloc (.cells (dv n m s sl bm bk E (.slice (some ⟨g, 0, none⟩) E gc)) 30)).alloc (.cells #[.slice none 0 0, .slice none 0 0] 46)).alloc (.cells #[.slice none 0 0, .slice none 0 0] 46)) from by
    have h1 := hb_new w (dv n m s sl bm bk E (.slice (some ⟨g, 0, none⟩) E gc)) 30
    have h2 := hb_new (w.alloc (.cells (dv n m s sl bm bk E (.slice (some ⟨g, 0, none⟩) E gc)) 30)) #[.slice none 0 0, .slice none 0 0] 46
    have h3 := hb_new ((w.alloc (.cells (dv n m s sl bm bk E (.slice (some ⟨g, 0, none⟩) E gc)) 30)).alloc (.cells #[.slice none 0 0, .slice none 0 0] 46)) #[.slice none 0 0, .slice none 0 0] 46
    simp only [World.size_alloc] at h2 h3
    have k := fun (W : World) o => (Below.refl W.heap.size W).alloc (Nat.le_refl _) o
    exact ⟨(h1.keep (k _ _)).keep (k _ _), h2.keep (k _ _), h3, World.ownsRow_nil .., World.ownsRow_nil .., ((k w _).trans ((k _ _).mono (by simp))).trans ((k _ _).mono (by simp; omega))⟩)
  unfold dv at HR
  go_loopw [7] (fun s' wr => ∃ (sv : Int) (l : List Pt) (A : Option Addr) (c : Nat) (B : Option Addr) (d : Nat), s' = .int .i64 sv ∧ Path (pat f n) hd l sv ∧ (l.map Pt.s).Nodup ∧ Rq w #[.int .i64 (n : Int), .int .i64 (m : Int), .int .i64 (s : Int), .int .i64 16, .int .i64 (sl : Int), .int .i64 (bm : Int), .int .i64 (bk : Int), .int .i64 (E : Int), .slice (some ⟨g, 0, none⟩) E gc] l A c B d wr) (fun _ wr => n - ((wr.cell? ⟨w.heap.size + 1 + 1, 0, none⟩).map lenOf).getD 0)
  case atStart => exact ⟨hd, [], none, 0, none, 0, rfl, rfl, by simp, HR.out⟩
  case round =>
    obtain ⟨sv, l, A, c, B, d, rfl, hpath, hnd, hrt⟩ := hrel
    have HRT := Lib.hid hrt
    have HPT := Lib.hid hpath
    have HND := Lib.hid hnd
    have HMEM := Lib.hid (path_mem hpath)
    have hln : l.length ≤ n := few_slots (fun p hp => (path_mem hpath p hp).1) hnd
    have b0 := hrt.box.cell 0
    have b1 := hrt.box.cell 1
    have bl := hrt.box.lt
    have bf0 := hrt.box.frozen 0
    have bf1 := hrt.box.frozen 1
    have rl := hrt.res.lt
    have r0 := hrt.res.cell 0
    have r1 := hrt.res.cell 1
    have rf0 := hrt.res.frozen 0
    have rf1 := hrt.res.frozen 1
    have vl := hrt.vol.lt
    have v0 := hrt.vol.cell 0
    have v1 := hrt.vol.cell 1
    have v2 := hrt.vol.cell 2
    have v3 := hrt.vol.cell 3
    have v4 := hrt.vol.cell 4
    have v5 := hrt.vol.cell 5
    have v6 := hrt.vol.cell 6
    have v7 := hrt.vol.cell 7
    have v8 := hrt.vol.cell 8
    clear hrt hpath hnd HR
    by_cases hs : sv = -1
    · subst hs
      clear v0 v1 v2 v3 v4 v5 v6 v7 v8 vl
      go_wp2
      have hR := HRT.out
      have hB0 := hR.res.set 0 (.slice A l.length c)
      have i1 := own_far (i := 0) hR.ints hR.res (by decide) (.slice A l.length c)
      have p1 := own_far (i := 0) hR.prts hR.res (by decide) (.slice A l.length c)
      have i2 := own_far (i := 1) i1 hB0 (by decide) (.slice B l.length d)
      have p2 := own_far (i := 1) p1 hB0 (by decide) (.slice B l.length d)
      have hmem := HMEM.out
      refine bodyPost_ret (v := .tuple #[.agg #[.slice A l.length c, .slice B l.length d], .bool true]) ?_ rfl (RrTo.some (rd_yes HPT.out) rfl (Pack.own_nts i2 (fun x hx => ?_) (by omega)) (own_prt p2).1 (Pack.row_cap i2) (row_cap3 p2) ?_)
      · simp [results, Tryz.results11, go_sem, r0, r1]
      · obtain ⟨p, hp, rfl⟩ := List.mem_map.1 hx
        have := (hmem p hp).1
        omega
      · exact (hR.below.setCell (p := ⟨w.heap.size + 1, 0, none⟩) (Nat.le_succ _) _).setCell (p := ⟨w.heap.size + 1, 1, none⟩) (Nat.le_succ _) _
    · have hsb : (sv != -1) = true := by simp [hs]
      by_cases hin : 0 ≤ sv ∧ sv < (n : Int)
      · obtain ⟨i, rfl⟩ := Int.eq_ofNat_of_zero_le hin.1
        have hil : i < n := by omega
        have hsl := fun w' (hb : Below w.heap.size w w') => HS15.out w' hb i hil
        have HFW := Lib.hid (show f i = Slo.dec (W[sl + i]?.getD 0) by rw [HF.out]; rfl)
        generalize Slo.dec (W[sl + i]?.getD 0) = dc at *
        unfold Slo.rv at hsl
        cases dc with
        | none =>
          have HN := Lib.hid (rd_stop (n := n) HPT.out hs (pat_none HFW.out))
          simp only [Slo.gv, Option.isSome_none, dv] at hsl
          have HS := Lib.hid hsl
          clear hsl
          go_wp2_with fail
          clear v0 v1 v2 v3 v4 v5 v6 v7 v8
          refine (HS.out _ HRT.out.below).mono ?_
          rintro r w2 ⟨rfl, hb2⟩
          have HRT2 := Lib.hid ((HRT.out.keep hb2).keep ((Below.refl w2.heap.size w2).alloc (Nat.le_refl _) (.cells #[.int .i64 0, .int .i64 0, .int .i64 0] 57)))
          have HP2 := Lib.hid (hb_new w2 #[.int .i64 0, .int .i64 0, .int .i64 0] 57)
          clear hb2 HS r0 r1 rl rf0 rf1 b0 b1 bl bf0 bf1 vl
          have r20 := HRT2.out.res.cell 0
          have r21 := HRT2.out.res.cell 1
          have rl2 := HRT2.out.res.lt
          have rf20 := HRT2.out.res.frozen 0
          have rf21 := HRT2.out.res.frozen 1
          go_wp2
          generalize w2.alloc (.cells #[.int .i64 0, .int .i64 0, .int .i64 0] 57) = w3 at *
          refine bodyPost_ret (v := .tuple #[.agg #[.slice none 0 0, .slice none 0 0], .bool false]) ?_ rfl (RrTo.none HN.out rfl ?_)
          · simp [results, Tryz.results11, go_sem, r20, r21]
          · exact (HRT2.out.below.setCell (p := ⟨w.heap.size + 1, 0, none⟩) (Nat.le_succ _) _).setCell (p := ⟨w.heap.size + 1, 1, none⟩) (Nat.le_succ _) _
        | some t =>
          obtain ⟨x, y, q⟩ := t
          simp only [Slo.gv, Option.isSome_some, dv] at hsl
          have HS := Lib.hid hsl
          have hmy := Slo.may_lt (Slo.dec_some (by rw [← HFW.out, HF.out]; rfl : Slo.dec (W[sl + i]?.getD 0) = some (x, y, q))).1
          obtain ⟨z, hz⟩ : ∃ z, z = Slo.nx q := ⟨_, rfl⟩
          have HZ := Lib.hid hz
          rw [← hz] at HS
          clear hsl hz
          by_cases hmi : (i : Int) ∈ slots l
          · obtain ⟨p, hp, hpi⟩ := mem_slots.1 hmi
            have HN := Lib.hid (rd_back HPT.out hp (by rw [hpi]) n)
            clear hp hpi
            go_wp2_with fail
            clear v0 v1 v2 v3 v4 v5 v6 v7 v8
            refine (HS.out _ HRT.out.below).mono ?_
            rintro r w2 ⟨rfl, hb2⟩
            have HRT2 := Lib.hid ((HRT.out.keep hb2).keep ((Below.refl w2.heap.size w2).alloc (Nat.le_refl _) (.cells #[.int .i64 (x : Int), .int .i64 (y : Int), .int .i64 z] 57)))
            have HP2 := Lib.hid (hb_new w2 #[.int .i64 (x : Int), .int .i64 (y : Int), .int .i64 z] 57)
            clear hb2 HS r0 r1 rl rf0 rf1 b0 b1 bl bf0 bf1 vl
            have b02 := HRT2.out.box.cell 0
            have bl2 := HRT2.out.box.lt
            have HIN := Lib.hid (rin_any _ A c (slots l) (i : Int) (nts_of HRT2.out (fun p hp => (HMEM.out p hp).1) (by omega) (by omega)))
            rw [slots_len, decide_eq_true hmi] at HIN
            go_wp2_with fail
            generalize hw3 : w2.alloc (.cells #[.int .i64 (x : Int), .int .i64 (y : Int), .int .i64 z] 57) = w3 at *
            clear hw3
            generalize w2.heap.size = pb at *
            refine HIN.out.mono ?_
            rintro r w5 ⟨rfl, hb5⟩
            have HRT5 := Lib.hid (HRT2.out.keep hb5)
            have HP5 := Lib.hid (HP2.out.keep hb5)
            clear hb5 HRT2 HP2 HIN b02 bl2
            have r50 := HRT5.out.res.cell 0
            have r51 := HRT5.out.res.cell 1
            have rl5 := HRT5.out.res.lt
            have rf50 := HRT5.out.res.frozen 0
            have rf51 := HRT5.out.res.frozen 1
            go_wp2
            refine bodyPost_ret (v := .tuple #[.agg #[.slice none 0 0, .slice none 0 0], .bool false]) ?_ rfl (RrTo.none HN.out rfl ?_)
            · simp [results, Tryz.results11, go_sem, r50, r51]
            · exact (HRT5.out.below.setCell (p := ⟨w.heap.size + 1, 0, none⟩) (Nat.le_succ _) _).setCell (p := ⟨w.heap.size + 1, 1, none⟩) (Nat.le_succ _) _
          · have HNN := Lib.hid (show ((l ++ [(⟨i, x, y, q⟩ : Pt)]).map Pt.s).Nodup by
              rw [List.map_append, List.nodup_append]
              refine ⟨HND.out, by simp, fun a ha b hb e => ?_⟩
              obtain rfl : b = i := by simpa using hb
              obtain ⟨p, hp, hpi⟩ := List.mem_map.1 ha
              exact hmi (mem_slots.2 ⟨p, hp, by rw [hpi, e]⟩))
            by_cases hxy : x + y ≤ n
            · have hpn := path_snoc HPT.out hs (pat_yes (n := n) HFW.out hil hxy)
              have HLN := Lib.hid (show l.length < n by
                have := few_slots (fun p hp => (path_mem hpn p hp).1) HNN.out
                simp at this
                omega)
              have HPN := Lib.hid hpn
              obtain ⟨j1, hj1, hj2, hj3, hj4⟩ := info_parts Pack.int_info
              obtain ⟨k1, hk1, hk2, hk3, hk4⟩ := info_parts rpart_info
              have hxyi : ¬ (n : Int) < (x : Int) + (y : Int) := by omega
              clear hpn
              go_wp2_with fail
              clear v0 v1 v2 v3 v4 v5 v6 v7 v8
              refine (HS.out _ HRT.out.below).mono ?_
              rintro r w2 ⟨rfl, hb2⟩
              have HRT2 := Lib.hid ((HRT.out.keep hb2).keep ((Below.refl w2.heap.size w2).alloc (Nat.le_refl _) (.cells #[.int .i64 (x : Int), .int .i64 (y : Int), .int .i64 z] 57)))
              have HP2 := Lib.hid (hb_new w2 #[.int .i64 (x : Int), .int .i64 (y : Int), .int .i64 z] 57)
              have HPB := Lib.hid (show (Value.slice B l.length d).ownBlock ≠ some w2.heap.size from fun hg => by have := (World.ownsRow.lt HRT.out.prts _ hg).2; have := hb2.size; omega)
              clear hb2 HS r0 r1 rl rf0 rf1 b0 b1 bl bf0 bf1 vl
              have b02 := HRT2.out.box.cell 0
              have bl2 := HRT2.out.box.lt
              have HIN := Lib.hid (rin_any _ A c (slots l) (i : Int) (nts_of HRT2.out (fun p hp => (HMEM.out p hp).1) (by omega) (by omega)))
              rw [slots_len, decide_eq_false hmi] at HIN
              go_wp2_with fail
              generalize hw3 : w2.alloc (.cells #[.int .i64 (x : Int), .int .i64 (y : Int), .int .i64 z] 57) = w3 at *
              clear hw3
              generalize w2.heap.size = pb at *
              refine HIN.out.mono ?_
              rintro r w5 ⟨rfl, hb5⟩
              have HRT5 := Lib.hid (HRT2.out.keep hb5)
              have HP5 := Lib.hid (HP2.out.keep hb5)
              clear hb5 HRT2 HP2 HIN b02 bl2
              have hv50 := HRT5.out.vol.cell 0
              have hv5l := HRT5.out.vol.lt
              have hp50 := HP5.out.cell 0
              have hp51 := HP5.out.cell 1
              have hp5l := HP5.out.lt
              have b05 := HRT5.out.box.cell 0
              have b15 := HRT5.out.box.cell 1
              have bl5 := HRT5.out.box.lt
              have bs5 := HRT5.out.below.size
              have HI5 := Lib.hid (HRT5.out.ints.alloc (.cells #[.int .i64 (i : Int)] 3))
              go_wp2_with (first
              | (at_builtin
                 refine wpList_append_own_at _ rfl (.tmp 40) (.tmp 42) 33 rfl w.heap.size 3 j1 (.int .i64 0) 1 8 Tryz.underlying33 hj1 hj2 hj3 hj4 rfl (by decide) (.slice A l.length c) l.length (Pack.i64s (slots l)) rfl HI5.out ⟨w5.heap.size, 0, none⟩ 1 1 [.int .i64 (i : Int)] rfl rfl (cell_one_new _ _ _) (by simp [Value.oneCell']) (by unfold maxLen; omega) (by omega) (by simp; omega) ?_
                 intro v6 w6 hown6 hgr6 _ hat6
                 obtain ⟨G6, c6, rfl⟩ := Pack.row_slice hown6
                 have hal := (Below.refl w5.heap.size w5).alloc (Nat.le_refl _) (.cells #[.int .i64 (i : Int)] 3)
                 have hr6 := hb_grown (HRT5.out.res.keep hal) hgr6 (hb_apart HRT5.out.res HRT5.out.ints (by decide))
                 have hb6 := hb_grown (HRT5.out.box.keep hal) hgr6 (hb_apart HRT5.out.box HRT5.out.ints (by decide))
                 have hp6 := hb_grown (HP5.out.keep hal) hgr6 (hb_apart HP5.out HRT5.out.ints (by decide))
                 have hq6 := (HRT5.out.prts.alloc (.cells #[.int .i64 (i : Int)] 3)).kept hgr6 (Pack.rows_apart HRT5.out.prts HRT5.out.ints (by decide))
                 have hbl6 := (HRT5.out.below.alloc HRT5.out.below.size (.cells #[.int .i64 (i : Int)] 3)).grown hgr6 (by simp; omega) (fun k hk => row_base_lt3 HRT5.out.ints hk)
                 have hcp : ¬ w.heap.size + 1 + 1 = pb := Pm.blk_ne hb6 hp6 (by decide)
                 have hcr : ¬ w.heap.size + 1 + 1 = w.heap.size + 1 := by omega
                 have hcv : ¬ w.heap.size + 1 + 1 = w.heap.size := by omega
                 have hv6 := hb_grown (HRT5.out.vol.keep hal) hgr6 (hb_apart HRT5.out.vol HRT5.out.ints (by decide))
                 have HVV7 := Lib.hid (hv6.far (p := ⟨w.heap.size + 1 + 1, 0, none⟩) (fun e => hcv e.symm) (.slice G6 (l.length + 1) c6))
                 have HR7 := Lib.hid (hr6.far (p := ⟨w.heap.size + 1 + 1, 0, none⟩) (fun e => hcr e.symm) (.slice G6 (l.length + 1) c6))
                 have HB7 := Lib.hid (hb6.set 0 (.slice G6 (l.length + 1) c6))
                 have HP7 := Lib.hid (hp6.far (p := ⟨w.heap.size + 1 + 1, 0, none⟩) (fun e => hcp e.symm) (.slice G6 (l.length + 1) c6))
                 have HI7 := Lib.hid (own_far (i := 0) hown6 hb6 (by decide) (.slice G6 (l.length + 1) c6))
                 have HQ7 := Lib.hid (own_far (i := 0) hq6 hb6 (by decide) (.slice G6 (l.length + 1) c6))
                 have HBL7 := Lib.hid (hbl6.setCell (p := ⟨w.heap.size + 1 + 1, 0, none⟩) (by show w.heap.size ≤ w.heap.size + 1 + 1; omega) (.slice G6 (l.length + 1) c6))
                 have b06 := hb6.cell 0
                 have b16 := hb6.cell 1
                 have f06 := hb6.frozen 0
                 have bl6 := hb6.lt
                 have q06 := hp6.cell 0
                 have q16 := hp6.cell 1
                 have q26 := hp6.cell 2
                 have hz7 : (w6.setCell ⟨w.heap.size + 1 + 1, 0, none⟩ (.slice G6 (l.length + 1) c6)).heap.size = w6.heap.size := by simp [World.setCell]
                 have hn7 := cells_three_new (w6.setCell ⟨w.heap.size + 1 + 1, 0, none⟩ (.slice G6 (l.length + 1) c6)) (.int .i64 (x : Int)) (.int .i64 (y : Int)) (.int .i64 z) 57
                 rw [hz7] at hn7
                 have HN7 := Lib.hid hn7
                 have HQ8 := Lib.hid (HQ7.out.alloc (.cells #[.int .i64 (x : Int), .int .i64 (y : Int), .int .i64 z] 57))
                 have bs6 : w.heap.size ≤ w6.heap.size := by have := HBL7.out.size; omega
                 clear hown6 hgr6 hat6 hal hr6 hb6 hp6 hq6 hbl6 hn7 hz7 hv6)
              | (at_builtin
                 refine wpList_append_own_at _ rfl (.tmp 46) (.tmp 48) 44 rfl w.heap.size 57 k1 (.agg #[.int .i64 0, .int .i64 0, .int .i64 0]) 3 24 Tryz.underlying44 hk1 hk2 hk3 hk4 rfl (by decide) (.slice B l.length d) l.length (pcells l) rfl HQ8.out ⟨w6.heap.size, 0, none⟩ 1 1 [.int .i64 (x : Int), .int .i64 (y : Int), .int .i64 z] rfl rfl HN7.out (by simp [Value.oneCell']) (by unfold maxLen; omega) (by omega) (by simp [World.setCell]; omega) ?_
                 intro v8 w8 hown8 hgr8 _ hat8
                 obtain ⟨G8, d8, rfl⟩ := row_slice3 hown8
                 have hal := (Below.refl (w6.setCell ⟨w.heap.size + 1 + 1, 0, none⟩ (.slice G6 (l.length + 1) c6)).heap.size (w6.setCell ⟨w.heap.size + 1 + 1, 0, none⟩ (.slice G6 (l.length + 1) c6))).alloc (Nat.le_refl _) (.cells #[.int .i64 (x : Int), .int .i64 (y : Int), .int .i64 z] 57)
                 have hv8 := hb_grown (HVV7.out.keep hal) hgr8 (hb_apart3 HVV7.out HQ7.out (by decide))
                 have HVV9 := Lib.hid (hv8.far (p := ⟨w.heap.size + 1 + 1, 1, none⟩) (fun e => hcv e.symm) (.slice G8 (l.length + 1) d8))
                 have hr8 := hb_grown (HR7.out.keep hal) hgr8 (hb_apart3 HR7.out HQ7.out (by decide))
                 have hb8 := hb_grown (HB7.out.keep hal) hgr8 (hb_apart3 HB7.out HQ7.out (by decide))
                 have hp8 := hb_grown (HP7.out.keep hal) hgr8 HPB.out
                 have hi8 := (HI7.out.alloc (.cells #[.int .i64 (x : Int), .int .i64 (y : Int), .int .i64 z] 57)).kept hgr8 (Pack.rows_apart HI7.out HQ7.out (by decide))
                 have hbl8 := (HBL7.out.alloc HBL7.out.size (.cells #[.int .i64 (x : Int), .int .i64 (y : Int), .int .i64 z] 57)).grown hgr8 (by simp [World.setCell]; omega) (fun k hk => row_base_lt3 HQ7.out hk)
                 have HR9 := Lib.hid (hr8.far (p := ⟨w.heap.size + 1 + 1, 1, none⟩) (fun e => hcr e.symm) (.slice G8 (l.length + 1) d8))
                 have HB9 := Lib.hid (hb8.set 1 (.slice G8 (l.length + 1) d8))
                 have HI9 := Lib.hid (own_far (i := 1) hi8 hb8 (by decide) (.slice G8 (l.length + 1) d8))
                 have HQ9 := Lib.hid (own_far (i := 1) hown8 hb8 (by decide) (.slice G8 (l.length + 1) d8))
                 have HBL9 := Lib.hid (hbl8.setCell (p := ⟨w.heap.size + 1 + 1, 1, none⟩) (by show w.heap.size ≤ w.heap.size + 1 + 1; omega) (.slice G8 (l.length + 1) d8))
                 have b18 := hb8.cell 1
                 have f18 := hb8.frozen 1
                 have bl8 := hb8.lt
                 have q08 := hp8.cell 0
                 have q18 := hp8.cell 1
                 have q28 := hp8.cell 2
                 have pl8 := hp8.lt
                 clear hown8 hgr8 hat8 hal hr8 hb8 hp8 hi8 hbl8 hv8))
              have e : (l ++ [(⟨i, x, y, q⟩ : Pt)]).length = l.length + 1 := by simp
              refine ⟨⟨z, l ++ [⟨i, x, y, q⟩], G6, c6, G8, d8, rfl, by rw [HZ.out]; exact HPN.out, HNN.out, ⟨HVV9.out, HR9.out, by rw [e]; exact HB9.out, ?_, ?_, HBL9.out⟩⟩, ?_⟩
              · rw [e, slots_snoc]
                unfold Pack.i64s
                rw [List.map_append]
                exact HI9.out
              · rw [e, pcells_snoc]
                simp only
                rw [← HZ.out]
                exact HQ9.out
              · rw [HB9.out.cell 0, HRT.out.box.cell 0]
                simp [lenOf]
                have := HLN.out
                omega
            · have HN := Lib.hid (rd_stop (n := n) HPT.out hs (pat_far HFW.out (by omega)))
              have hxyi : (n : Int) < (x : Int) + (y : Int) := by omega
              go_wp2_with fail
              clear v0 v1 v2 v3 v4 v5 v6 v7 v8
              refine (HS.out _ HRT.out.below).mono ?_
              rintro r w2 ⟨rfl, hb2⟩
              have HRT2 := Lib.hid ((HRT.out.keep hb2).keep ((Below.refl w2.heap.size w2).alloc (Nat.le_refl _) (.cells #[.int .i64 (x : Int), .int .i64 (y : Int), .int .i64 z] 57)))
              have HP2 := Lib.hid (hb_new w2 #[.int .i64 (x : Int), .int .i64 (y : Int), .int .i64 z] 57)
              clear hb2 HS r0 r1 rl rf0 rf1 b0 b1 bl bf0 bf1 vl
              have b02 := HRT2.out.box.cell 0
              have bl2 := HRT2.out.box.lt
              have HIN := Lib.hid (rin_any _ A c (slots l) (i : Int) (nts_of HRT2.out (fun p hp => (HMEM.out p hp).1) (by omega) (by omega)))
              rw [slots_len, decide_eq_false hmi] at HIN
              go_wp2_with fail
              generalize hw3 : w2.alloc (.cells #[.int .i64 (x : Int), .int .i64 (y : Int), .int .i64 z] 57) = w3 at *
              clear hw3
              generalize w2.heap.size = pb at *
              refine HIN.out.mono ?_
              rintro r w5 ⟨rfl, hb5⟩
              have HRT5 := Lib.hid (HRT2.out.keep hb5)
              have HP5 := Lib.hid (HP2.out.keep hb5)
              clear hb5 HRT2 HP2 HIN b02 bl2
              have hv50 := HRT5.out.vol.cell 0
              have hv5l := HRT5.out.vol.lt
              have hp50 := HP5.out.cell 0
              have hp51 := HP5.out.cell 1
              have hp5l := HP5.out.lt
              have r50 := HRT5.out.res.cell 0
              have r51 := HRT5.out.res.cell 1
              have rl5 := HRT5.out.res.lt
              have rf50 := HRT5.out.res.frozen 0
              have rf51 := HRT5.out.res.frozen 1
              go_wp2
              refine bodyPost_ret (v := .tuple #[.agg #[.slice none 0 0, .slice none 0 0], .bool false]) ?_ rfl (RrTo.none HN.out rfl ?_)
              · simp [results, Tryz.results11, go_sem, r50, r51]
              · exact (HRT5.out.below.setCell (p := ⟨w.heap.size + 1, 0, none⟩) (Nat.le_succ _) _).setCell (p := ⟨w.heap.size + 1, 1, none⟩) (Nat.le_succ _) _
      · have HN := Lib.hid (rd_stop (n := n) HPT.out hs (pat_out (by omega)))
        have HS := Lib.hid (fun w' (hb : Below w.heap.size w w') => Vol.rslot_no (n := n) (m := m) (s := s) (sl := sl) (bm := bm) (bk := bk) (E := E) w' (.slice (some ⟨g, 0, none⟩) E gc) sv (by omega))
        unfold dv at HS
        go_wp2_with fail
        clear v0 v1 v2 v3 v4 v5 v6 v7 v8
        refine (HS.out _ HRT.out.below).mono ?_
        rintro r w2 ⟨rfl, hb2⟩
        have HRT2 := Lib.hid ((HRT.out.keep hb2).keep ((Below.refl w2.heap.size w2).alloc (Nat.le_refl _) (.cells #[.int .i64 0, .int .i64 0, .int .i64 0] 57)))
        have HP2 := Lib.hid (hb_new w2 #[.int .i64 0, .int .i64 0, .int .i64 0] 57)
        clear hb2 HS r0 r1 rl rf0 rf1 b0 b1 bl bf0 bf1 vl
        have r20 := HRT2.out.res.cell 0
        have r21 := HRT2.out.res.cell 1
        have rl2 := HRT2.out.res.lt
        have rf20 := HRT2.out.res.frozen 0
        have rf21 := HRT2.out.res.frozen 1
        go_wp2
        generalize w2.alloc (.cells #[.int .i64 0, .int .i64 0, .int .i64 0] 57) = w3 at *
        refine bodyPost_ret (v := .tuple #[.agg #[.slice none 0 0, .slice none 0 0], .bool false]) ?_ rfl (RrTo.none HN.out rfl ?_)
        · simp [results, Tryz.results11, go_sem, r20, r21]
        · exact (HRT2.out.below.setCell (p := ⟨w.heap.size + 1, 0, none⟩) (Nat.le_succ _) _).setCell (p := ⟨w.heap.size + 1, 1, none⟩) (Nat.le_succ _) _
end Chn
end Go.Proofs.YtleehhpodgbomaaGreatDoor
/- The document's Blocks; law 16's Same of what is the same. -/
namespace Go.Proofs.YtleehhpodgbomaaGreatDoor
open Go.RowKit Go.MapKept
namespace Chn
open Vol (Vo Up Kq Hb hb_new hb_grown hb_apart)

set_option maxHeartbeats 1000000 in
set_option maxRecDepth 100000 in
theorem rblocks_any (w : World) (A B : Option Addr) (n' c d : Nat) (l : List Pt) (h : Prt w B l) (hm : Mays l) (hl : l.length ≤ 65534) :
    Calls Tryz.prog 13 #[.agg #[.slice A n' c, .slice B l.length d]] w fun r w' => ∃ G gc, r = .returned (.slice G (tot l) gc) ∧ Pack.Nts w' G ((blk l).map Int.ofNat) ∧ tot l ≤ gc ∧ Below w.heap.size w w' := by
  have H := Lib.hid h
  have HM := Lib.hid hm
  have htl := tot_le HM.out l.length
  rw [List.take_length] at htl
  have HTL := Lib.hid htl
  clear h hm htl
  obtain ⟨i0, hi0, hz0, hz1, hz2⟩ := info_parts Pack.int_info
  go_enter Tryz.func13, Tryz.ntmps13
  go_wp2
  have HB2 := Lib.hid ((Below.refl w.heap.size w).alloc (Nat.le_refl _) (.cells #[.slice A n' c, .slice B l.length d] 46))
  go_loopw [3, 10] (fun v i wr => ∃ (m : Nat) (G : Option Addr) (gc : Nat), m ≤ l.length ∧ i = .int .i64 (m : Int) ∧ v = .slice G (tot (l.take m)) gc ∧ wr.ownsRow w.heap.size 3 1 (.slice G (tot (l.take m)) gc) (tot (l.take m)) (Pack.i64s ((blk (l.take m)).map Int.ofNat)) ∧ Below w.heap.size w wr) (fun _ i _ => l.length - (intOf i).toNat)
  case atStart => exact ⟨0, none, 0, Nat.zero_le _, rfl, by simp [tot], by simpa [tot, blk, Pack.i64s] using World.ownsRow_nil _ _ _ _, HB2.out⟩
  case round =>
    obtain ⟨m, G, gc, hm, rfl, rfl, hrow, hb⟩ := hrel
    clear HB2
    by_cases hlt : m < l.length
    · obtain ⟨b, o, rfl, hbb, hc0, hc1, hc2⟩ := H.out.at' m hlt
      have hc0 := (hb.cell (p := ⟨b, o + m * 3, none⟩) hbb).trans hc0
      have hc1 := (hb.cell (p := ⟨b, o + m * 3 + 1, none⟩) hbb).trans hc1
      have hc2 := (hb.cell (p := ⟨b, o + m * 3 + 2, none⟩) hbb).trans hc2
      have hbb := Nat.lt_of_lt_of_le hbb hb.size
      have HT := Lib.hid (tot_snoc hlt)
      have HK := Lib.hid (blk_snoc hlt)
      have htk := tot_le HM.out m
      have htk2 := tot_le HM.out (m + 1)
      rw [HT.out] at htk2
      have hcl := Slo.may_lt (HM.out _ (List.getElem_mem hlt))
      generalize l[m] = p at *
      obtain ⟨p0, x, y, q⟩ := p
      simp only at hc0 hc1 hc2 HT HK hcl htk2
      generalize Slo.nx q = z at *
      obtain ⟨T, hT⟩ : ∃ T, T = tot (l.take m) := ⟨_, rfl⟩
      obtain ⟨K, hK⟩ : ∃ K, K = blk (l.take m) := ⟨_, rfl⟩
      rw [← hT] at hrow HT htk htk2 ⊢
      rw [← hK] at hrow HK
      clear hT hK
      have hal := (Below.refl wr.heap.size wr).alloc (Nat.le_refl _) (.cells #[.int .i64 (x : Int), .int .i64 (y : Int), .int .i64 z] 57)
      have HB := Lib.hid (hb.trans (hal.mono hb.size))
      have HX := Lib.hid (hb_new wr #[.int .i64 (x : Int), .int .i64 (y : Int), .int .i64 z] 57)
      have HO := Lib.hid (own_keep3 hrow hal)
      clear hal hb hrow
      go_wp2
      generalize hw3 : wr.alloc (.cells #[.int .i64 (x : Int), .int .i64 (y : Int), .int .i64 z] 57) = w3 at *
      clear hw3
      generalize wr.heap.size = pb at *
      clear hc0 hc1 hc2 hbb
      clear wr
      go_loopw [3, 16] (fun v i wr => ∃ (t : Nat) (G : Option Addr) (gc : Nat), t ≤ y ∧ i = .int .i64 (t : Int) ∧ v = .slice G (T + t) gc ∧ wr.ownsRow w.heap.size 3 1 (.slice G (T + t) gc) (T + t) (Pack.i64s ((K ++ (List.range t).map (x + ·)).map Int.ofNat)) ∧ Hb wr pb #[.int .i64 (x : Int), .int .i64 (y : Int), .int .i64 z] 57 ∧ Below w.heap.size w wr) (fun _ i _ => y - (intOf i).toNat)
      case atStart => exact ⟨0, G, gc, Nat.zero_le _, rfl, rfl, by simpa using HO.out, HX.out, HB.out⟩
      case round =>
        obtain ⟨t, G, gc, ht, rfl, rfl, hrow, hx, hb⟩ := hrel
        clear HO HX HB
        by_cases hty : t < y
        · have x0 := hx.cell 0
          have xl := hx.lt
          have bs := hb.size
          have HX := Lib.hid hx
          have HB := Lib.hid hb
          have HR := Lib.hid hrow
          have HO := Lib.hid (hrow.alloc (.cells #[.int .i64 ((x : Int) + (t : Int))] 3))
          clear hx hb hrow
          go_wp2_with (at_builtin
                       refine wpList_append_own_at _ rfl (.tmp 19) (.tmp 24) 33 rfl w.heap.size 3 i0 (.int .i64 0) 1 8 Tryz.underlying33 hi0 hz0 hz1 hz2 rfl (by decide) (.slice G (T + t) gc) (T + t) (Pack.i64s ((K ++ (List.range t).map (x + ·)).map Int.ofNat)) rfl HO.out ⟨wr.heap.size, 0, none⟩ 1 1 [.int .i64 ((x : Int) + (t : Int))] rfl rfl (cell_one_new _ _ _) (by simp [Value.oneCell']) (by unfold maxLen; omega) (by omega) (by simp; omega) ?_
                       intro v6 w6 hown6 hgr6 _ hat6
                       obtain ⟨G6, c6, rfl⟩ := Pack.row_slice hown6
                       have hal := (Below.refl wr.heap.size wr).alloc (Nat.le_refl _) (.cells #[.int .i64 ((x : Int) + (t : Int))] 3)
                       have HX6 := Lib.hid (hb_grown (HX.out.keep hal) hgr6 (hb_apart HX.out HR.out (by decide)))
                       have HB6 := Lib.hid ((HB.out.trans (hal.mono HB.out.size)).grown hgr6 (by simp; omega) (fun k hk => row_base_lt3 HR.out hk))
                       have HO6 := Lib.hid hown6
                       clear hown6 hgr6 hat6 hal)
          go_roundw
          case rel =>
            refine ⟨t + 1, G6, c6, by omega, by go_num, by rw [← Nat.add_assoc], ?_, HX6.out, HB6.out⟩
            have e : (K ++ (List.range (t + 1)).map (x + ·)).map Int.ofNat = (K ++ (List.range t).map (x + ·)).map Int.ofNat ++ [(x : Int) + (t : Int)] := by simp [List.range_succ]
            have h6 := HO6.out
            rw [e]
            unfold Pack.i64s at h6 ⊢
            rw [List.map_append, ← Nat.add_assoc]
            exact h6
          case measure => simp [intOf]; omega
        · obtain rfl : t = y := by omega
          have HX := Lib.hid hx
          have HB := Lib.hid hb
          have HR := Lib.hid hrow
          clear hx hb hrow
          go_wp2
          refine ⟨⟨m + 1, G, gc, by omega, by go_num, by rw [HT.out], ?_, HB.out⟩, by simp [intOf]; omega⟩
          rw [HT.out, HK.out]
          exact HR.out
    · obtain rfl : m = l.length := by omega
      rw [List.take_length] at hrow ⊢
      have hcap := row_cap3 hrow
      have htl := HTL.out
      go_wp2
      go_ret
      refine ⟨G, gc, rfl, Pack.own_nts hrow (fun x hx => ?_) (by omega), hcap, hb⟩
      obtain ⟨k, hk, rfl⟩ := List.mem_map.1 hx
      obtain ⟨p, hp, hk⟩ := List.mem_flatMap.1 hk
      obtain ⟨j, hj, rfl⟩ := List.mem_map.1 hk
      have := Slo.may_lt (HM.out p hp)
      have := List.mem_range.1 hj
      simp only [Int.ofNat_eq_natCast]
      omega

set_option maxHeartbeats 1000000 in
set_option maxRecDepth 100000 in
theorem lsame_yes (w : World) (A B C D : Option Addr) (c1 c2 c3 c4 : Nat) (l : List Pt) (hll : l.length ≤ 65534) (h1 : Pack.Nts w A (slots l)) (h2 : Pack.Nts w C (slots l)) (h3 : Prt w B l) (h4 : Prt w D l) :
    Calls Tryz.prog 12 #[.agg #[.slice A l.length c1, .slice B l.length c2], .agg #[.slice C l.length c3, .slice D l.length c4]] w fun r w' => r = .returned (.bool true) ∧ Below w.heap.size w w' := by
  have HS := Lib.hid (fun w' (hb : Below w.heap.size w w') => rsame_yes w' A C c1 c3 (slots l) (h1.keep hb) (h2.keep hb))
  rw [slots_len] at HS
  have H3 := Lib.hid h3
  have H4 := Lib.hid h4
  clear h1 h2 h3 h4
  go_enter Tryz.func12, Tryz.ntmps12
  go_wp2_with fail
  have k := fun (W : World) o => (Below.refl W.heap.size W).alloc (Nat.le_refl _) o
  have h1 := (hb_new w #[.slice A l.length c1, .slice B l.length c2] 36).keep (k _ (.cells #[.slice C l.length c3, .slice D l.length c4] 46))
  have h2 := hb_new (w.alloc (.cells #[.slice A l.length c1, .slice B l.length c2] 36)) #[.slice C l.length c3, .slice D l.length c4] 46
  rw [World.size_alloc] at h2
  have hb0 := (k w (.cells #[.slice A l.length c1, .slice B l.length c2] 36)).trans ((k _ (.cells #[.slice C l.length c3, .slice D l.length c4] 46)).mono (by simp))
  have H1 := Lib.hid h1
  have H2 := Lib.hid h2
  have HB0 := Lib.hid hb0
  clear k h1 h2 hb0
  generalize (w.alloc (.cells #[.slice A l.length c1, .slice B l.length c2] 36)).alloc (.cells #[.slice C l.length c3, .slice D l.length c4] 46) = w0 at *
  refine (HS.out _ HB0.out).mono ?_
  rintro r w1 ⟨rfl, hb⟩
  have HX1 := Lib.hid (H1.out.keep hb)
  have HX2 := Lib.hid (H2.out.keep hb)
  have HB1 := Lib.hid (HB0.out.trans (hb.mono HB0.out.size))
  clear hb HS H1 H2 HB0
  have x1 := HX1.out.cell 1
  have y1 := HX2.out.cell 1
  go_wp2
  clear x1 y1
  go_loopw [24] (fun i wr => ∃ m : Nat, m ≤ l.length ∧ i = .int .i64 (m : Int) ∧ Below w1.heap.size w1 wr) (fun i _ => l.length - (intOf i).toNat)
  case atStart => exact ⟨0, Nat.zero_le _, rfl, Below.refl _ _⟩
  case round =>
    obtain ⟨m, hm, rfl, hb⟩ := hrel
    by_cases hlt : m < l.length
    · have hbw := HB1.out.trans (hb.mono HB1.out.size)
      obtain ⟨b, o, rfl, hbb, hc0, hc1, hc2⟩ := (H3.out.keep hbw).at' m hlt
      obtain ⟨b2, o2, rfl, hbb2, hd0, hd1, hd2⟩ := (H4.out.keep hbw).at' m hlt
      have x1 := (HX1.out.keep hb).cell 1
      have y1 := (HX2.out.keep hb).cell 1
      have xl := (HX1.out.keep hb).lt
      have yl := (HX2.out.keep hb).lt
      generalize l[m] = p at *
      obtain ⟨p0, x, y, q⟩ := p
      simp only at hc0 hc1 hc2 hd0 hd1 hd2
      generalize Slo.nx q = z at *
      have hmi : (m : Int) < (l.length : Int) := by omega
      have HB := Lib.hid (hb.trans (bel_drew wr))
      clear hb hbw
      go_wp2
      go_region
      go_wp2
      exact ⟨⟨m + 1, by omega, by go_num, HB.out⟩, by simp [intOf]; omega⟩
    · obtain rfl : m = l.length := by omega
      go_wp2
      go_ret
      exact ⟨rfl, HB1.out.trans (hb.mono HB1.out.size)⟩
end Chn
end Go.Proofs.YtleehhpodgbomaaGreatDoor
/- What a chain tells: Find. -/
namespace Go.Proofs.YtleehhpodgbomaaGreatDoor
open Go.RowKit Go.MapKept
namespace Chn
open Vol (Hb hb_new hb_grown hb_apart)

/-- the part and the block, from a place on -/
def fd : Nat → List Pt → Nat → Option (Nat × Nat)
  | _, [], _ => none
  | i, p :: l, k => if k < p.c then some (i, p.x + k) else fd (i + 1) l (k - p.c)
def fv : Option (Nat × Nat) → Ending
  | none => .returned (.tuple #[.int .i64 (-1), .int .i64 (-1)])
  | some t => .returned (.tuple #[.int .i64 (t.1 : Int), .int .i64 (t.2 : Int)])
theorem blk_cons (p : Pt) (l : List Pt) : blk (p :: l) = (List.range p.c).map (p.x + ·) ++ blk l := rfl
theorem fd_some : ∀ {l : List Pt} {i k j b : Nat}, fd i l k = some (j, b) → (i ≤ j ∧ ∃ h : j - i < l.length, l[j - i].x ≤ b ∧ b < l[j - i].x + l[j - i].c) ∧ (blk l)[k]? = some b
  | [], i, k, j, b, h => by cases h
  | p :: l, i, k, j, b, h => by
    unfold fd at h
    rw [blk_cons]
    split at h
    · rename_i hk
      injection h with h
      injection h with h1 h2
      subst h1 h2
      refine ⟨⟨Nat.le_refl _, ?_⟩, ?_⟩
      · simp; omega
      · rw [List.getElem?_append_left (by simpa using hk)]
        simp [hk]
    · rename_i hk
      obtain ⟨⟨h1, h2, h3⟩, h4⟩ := fd_some h
      refine ⟨⟨by omega, ?_⟩, ?_⟩
      · have e : j - i = (j - (i + 1)) + 1 := by omega
        simp only [e, List.length_cons, List.getElem_cons_succ]
        exact ⟨by omega, h3⟩
      · rw [List.getElem?_append_right (by simp; omega)]
        simpa using h4
theorem fd_drop {l : List Pt} {m k : Nat} (h : m < l.length) : fd m (l.drop m) k = if k < l[m].c then some (m, l[m].x + k) else fd (m + 1) (l.drop (m + 1)) (k - l[m].c) := by
  rw [List.drop_eq_getElem_cons h]
  rfl
theorem fd_none : ∀ {l : List Pt} {i k : Nat}, fd i l k = none → tot l ≤ k
  | [], i, k, _ => Nat.zero_le _
  | p :: l, i, k, h => by
    unfold fd at h
    split at h
    · cases h
    · rename_i hk
      have := fd_none h
      unfold tot at this ⊢
      simp only [List.map_cons, List.sum_cons]
      omega

set_option maxHeartbeats 1000000 in
set_option maxRecDepth 100000 in
theorem find_no (w : World) (A B : Option Addr) (n' c d : Nat) (n2 : Nat) (k : Int) (hk : k < 0) :
    Calls Tryz.prog 14 #[.agg #[.slice A n' c, .slice B n2 d], .int .i64 k] w fun r w' => r = fv none ∧ Below w.heap.size w w' := by
  go_enter Tryz.func14, Tryz.ntmps14
  go_wp2
  refine bodyPost_ret (v := .tuple #[.int .i64 (-1), .int .i64 (-1)]) ?_ rfl ⟨rfl, (Below.refl w.heap.size w).alloc (Nat.le_refl _) _⟩
  simp [results, Tryz.results14, go_sem]
set_option maxHeartbeats 1000000 in
set_option maxRecDepth 100000 in
theorem find_any (w : World) (A B : Option Addr) (n' c d : Nat) (l : List Pt) (h : Prt w B l) (hm : Mays l) (hl : l.length ≤ 65534) (k : Nat) (hk : k ≤ 9223372036854775807) :
    Calls Tryz.prog 14 #[.agg #[.slice A n' c, .slice B l.length d], .int .i64 (k : Int)] w fun r w' => r = fv (fd 0 l k) ∧ Below w.heap.size w w' := by
  have H := Lib.hid h
  have HM := Lib.hid hm
  clear h hm
  obtain ⟨F, hF⟩ : ∃ F, F = fd 0 l k := ⟨_, rfl⟩
  rw [← hF]
  have HF := Lib.hid hF
  clear hF
  go_enter Tryz.func14, Tryz.ntmps14
  have hk0 : (0 : Int) ≤ (k : Int) := by omega
  go_wp2
  have HB0 := Lib.hid ((Below.refl w.heap.size w).alloc (Nat.le_refl _) (.cells #[.slice A n' c, .slice B l.length d] 36))
  go_loopw [1, 14] (fun kk i wr => ∃ m k' : Nat, m ≤ l.length ∧ i = .int .i64 (m : Int) ∧ kk = .int .i64 (k' : Int) ∧ k' ≤ k ∧ F = fd m (l.drop m) k' ∧ Below w.heap.size w wr) (fun _ i _ => l.length - (intOf i).toNat)
  case atStart => exact ⟨0, k, Nat.zero_le _, rfl, rfl, Nat.le_refl _, HF.out, HB0.out⟩
  case round =>
    obtain ⟨m, k', hm, rfl, rfl, hk', hF, hb⟩ := hrel
    clear HB0 HF
    by_cases hlt : m < l.length
    · obtain ⟨b, o, rfl, hbb, hc0, hc1, hc2⟩ := H.out.at' m hlt
      have hc0 := (hb.cell (p := ⟨b, o + m * 3, none⟩) hbb).trans hc0
      have hc1 := (hb.cell (p := ⟨b, o + m * 3 + 1, none⟩) hbb).trans hc1
      have hc2 := (hb.cell (p := ⟨b, o + m * 3 + 2, none⟩) hbb).trans hc2
      have hbb := Nat.lt_of_lt_of_le hbb hb.size
      have HBO := Lib.hid (fun w => blocksOf_any w l[m].x l[m].c l[m].q _ rfl (HM.out _ (List.getElem_mem hlt)))
      rw [fd_drop hlt] at hF
      have hcl := Slo.may_lt (HM.out _ (List.getElem_mem hlt))
      generalize l[m] = p at *
      obtain ⟨p0, x, y, q⟩ := p
      simp only at hc0 hc1 hc2 HBO hF hcl
      generalize Slo.nx q = z at *
      have HB := Lib.hid (hb.alloc hb.size (.cells #[.int .i64 (x : Int), .int .i64 (y : Int), .int .i64 z] 42))
      have HX := Lib.hid (hb_new wr #[.int .i64 (x : Int), .int .i64 (y : Int), .int .i64 z] 42)
      by_cases hky : k' < y
      · rw [if_pos hky] at hF
        have HF := Lib.hid hF
        have hky2 : (k' : Int) < (y : Int) := by omega
        clear hb hF hky
        go_wp2_with fail
        generalize wr.alloc (.cells #[.int .i64 (x : Int), .int .i64 (y : Int), .int .i64 z] 42) = w1 at *
        refine (HBO.out _).mono ?_
        rintro r w2 ⟨rfl, hb2⟩
        have HB2 := Lib.hid (HB.out.trans (hb2.mono HB.out.size))
        have d0 := (HX.out.keep hb2).cell 0
        have dl := (HX.out.keep hb2).lt
        clear hb2
        go_wp2
        have hw : IntKind.i64.wrap ((x : Int) + (k' : Int)) = (x : Int) + (k' : Int) := IntWalk.i64_in _ (by omega)
        go_region
        go_wp2
        refine bodyPost_ret (v := .tuple #[.int .i64 (m : Int), .int .i64 ((x : Int) + (k' : Int))]) ?_ rfl ⟨by rw [HF.out]; simp [fv], HB2.out.trans ⟨rfl, rfl, rfl, Nat.le_refl _, fun _ _ => rfl⟩⟩
        simp [results, Tryz.results14, go_sem]
      · rw [if_neg hky] at hF
        have HF := Lib.hid hF
        have hky2 : ¬ (k' : Int) < (y : Int) := by omega
        have hky3 : (y : Int) ≤ (k' : Int) := by omega
        clear hb hF hky
        go_wp2_with fail
        generalize wr.alloc (.cells #[.int .i64 (x : Int), .int .i64 (y : Int), .int .i64 z] 42) = w1 at *
        refine (HBO.out _).mono ?_
        rintro r w2 ⟨rfl, hb2⟩
        have HB2 := Lib.hid (HB.out.trans (hb2.mono HB.out.size))
        clear hb2
        go_wp2
        refine ⟨⟨m + 1, k' - y, by omega, by go_num, by congr 1; omega, by omega, HF.out, HB2.out⟩, by simp [intOf]; omega⟩
    · obtain rfl : m = l.length := by omega
      rw [List.drop_length] at hF
      have HF := Lib.hid (show F = none from hF)
      clear hF
      go_wp2
      refine bodyPost_ret (v := .tuple #[.int .i64 (-1), .int .i64 (-1)]) ?_ rfl ⟨by rw [HF.out]; rfl, hb⟩
      simp [results, Tryz.results14, go_sem]
end Chn
end Go.Proofs.YtleehhpodgbomaaGreatDoor
/- ChainReads, walked. -/
namespace Go.Proofs.YtleehhpodgbomaaGreatDoor
open Go.RowKit Go.MapKept
namespace Chn
open Vol (Vo Up Kq Hb hb_new hb_grown hb_apart Ov Pl gn gs dv rawW rawW_len)

/-- the error, and whether it may be -/
def Er (o : Option (List Pt)) (e : Int) (b : Bool) : Prop := (o ≠ none ∧ e = 0 ∧ b = true) ∨ (o = none ∧ e = 2 ∧ b = false)
theorem er_any (o : Option (List Pt)) : ∃ e b, Er o e b := by
  cases o with
  | none => exact ⟨2, false, .inr ⟨rfl, rfl, rfl⟩⟩
  | some l => exact ⟨0, true, .inl ⟨by simp, rfl, rfl⟩⟩
theorem nts_nil (w : World) (A : Option Addr) : Pack.Nts w A [] := ⟨fun n h => by simp at h, by simp, fun j h => by simp at h⟩
theorem prt_nil (w : World) (A : Option Addr) : Prt w A [] := ⟨fun j h => by simp at h⟩
theorem rd_mays {W : List Nat} {b n k : Nat} {h : Int} : Mays ((rd (pat (fw W b) n) k h).getD []) := by
  cases e : rd (pat (fw W b) n) k h with
  | none => intro p hp; simp at hp
  | some l =>
    intro p hp
    have := (path_mem (rd_iff.1 e).1 p (by simpa using hp)).2.1
    exact (Slo.dec_some this).1
theorem rd_few {W : List Nat} {b n k : Nat} {h : Int} : ((rd (pat (fw W b) n) k h).getD []).length ≤ k := by
  cases e : rd (pat (fw W b) n) k h with
  | none => exact Nat.zero_le _
  | some l => exact (rd_iff.1 e).2
theorem rdto {n : Nat} {f : Nat → Option (Nat × Nat × Nat)} {h e : Int} {b : Bool} {w w' : World} {r : Ending} (he : Er (rd (pat f n) n h) e b) (k : RdTo n f h w r w') :
    ∃ A c B d, r = .returned (.tuple #[.agg #[.slice A ((rd (pat f n) n h).getD []).length c, .slice B ((rd (pat f n) n h).getD []).length d], .int .i64 e]) ∧ Pack.Nts w' A (slots ((rd (pat f n) n h).getD [])) ∧ Prt w' B ((rd (pat f n) n h).getD []) ∧ Below w.heap.size w w' := by
  unfold RdTo at k
  rcases he with ⟨h1, rfl, rfl⟩ | ⟨h1, rfl, rfl⟩
  · cases hr : rd (pat f n) n h with
    | none => exact absurd hr h1
    | some l =>
      rw [hr] at k
      obtain ⟨A, c, B, d, e1, e2, e3, _, _, e4⟩ := k
      exact ⟨A, c, B, d, e1, e2, e3, e4⟩
  · rw [h1] at k ⊢
    exact ⟨none, 0, none, 0, k.1, nts_nil _ _, prt_nil _ _, k.2⟩
theorem rrto {n : Nat} {f : Nat → Option (Nat × Nat × Nat)} {h e : Int} {b : Bool} {w w' : World} {r : Ending} (he : Er (rd (pat f n) n h) e b) (k : RrTo n f h w r w') :
    ∃ A c B d, r = .returned (.tuple #[.agg #[.slice A ((rd (pat f n) n h).getD []).length c, .slice B ((rd (pat f n) n h).getD []).length d], .bool b]) ∧ Pack.Nts w' A (slots ((rd (pat f n) n h).getD [])) ∧ Prt w' B ((rd (pat f n) n h).getD []) ∧ Below w.heap.size w w' := by
  unfold RrTo at k
  rcases he with ⟨h1, rfl, rfl⟩ | ⟨h1, rfl, rfl⟩
  · cases hr : rd (pat f n) n h with
    | none => exact absurd hr h1
    | some l =>
      rw [hr] at k
      obtain ⟨A, c, B, d, e1, e2, e3, _, _, e4⟩ := k
      exact ⟨A, c, B, d, e1, e2, e3, e4⟩
  · rw [h1] at k ⊢
    exact ⟨none, 0, none, 0, k.1, nts_nil _ _, prt_nil _ _, k.2⟩

/-- Find, of any number -/
theorem find_all (l : List Pt) (hm : Mays l) (hl : l.length ≤ 65534) (q : Int) (hq : q ≤ 9223372036854775807) : ∃ p1 p2 : Int,
    (∀ (w : World) (A B : Option Addr) (n' c d : Nat), Prt w B l → Calls Tryz.prog 14 #[.agg #[.slice A n' c, .slice B l.length d], .int .i64 q] w fun r w' => r = .returned (.tuple #[.int .i64 p1, .int .i64 p2]) ∧ Below w.heap.size w w') ∧
    ((q < 0 ∨ (tot l : Int) ≤ q) → p1 = -1 ∧ p2 = -1) ∧
    (∀ k : Nat, q = (k : Int) → k < tot l → ∃ j b : Nat, p1 = (j : Int) ∧ p2 = (b : Int) ∧ (blk l)[k]? = some b ∧ ∃ h : j < l.length, l[j].x ≤ b ∧ b < l[j].x + l[j].c) := by
  rcases Int.lt_or_le q 0 with h | h
  · exact ⟨-1, -1, fun w A B n' c d _ => find_no w A B n' c d l.length q h, fun _ => ⟨rfl, rfl⟩, fun k e => by omega⟩
  · obtain ⟨k, rfl⟩ := Int.eq_ofNat_of_zero_le h
    cases hf : fd 0 l k with
    | none =>
      have h2 := fd_none hf
      refine ⟨-1, -1, fun w A B n' c d hp => ?_, fun _ => ⟨rfl, rfl⟩, fun k' e h3 => by omega⟩
      have := find_any w A B n' c d l hp hm hl k (by omega)
      rw [hf] at this
      exact this
    | some t =>
      obtain ⟨j, b⟩ := t
      obtain ⟨⟨_, h1, h2, h3⟩, h4⟩ := fd_some hf
      simp only [Nat.sub_zero] at h1 h2 h3
      refine ⟨(j : Int), (b : Int), fun w A B n' c d hp => ?_, fun h5 => ?_, fun k' e _ => ?_⟩
      · have := find_any w A B n' c d l hp hm hl k (by omega)
        rw [hf] at this
        exact this
      · have h6 := (List.getElem?_eq_some_iff.1 h4).1
        rw [blk_len] at h6
        omega
      · obtain rfl : k = k' := by omega
        exact ⟨j, b, rfl, rfl, h4, h1, h2, h3⟩
section
variable {ws : List Nat}
set_option maxHeartbeats 4000000 in
set_option maxRecDepth 100000 in
theorem reads_law (w : World) (hT : Bm.Tab w) (x y k : Nat) (hx : x < 256) (hy : y < 256) (hk : k < 256) (A : Option Addr) (c : Nat) (hws : Pack.Wds w A ws) (h q : Int) (hq : -9223372036854775808 ≤ q ∧ q ≤ 9223372036854775807) :
    Calls Tryz.prog 4 #[.agg #[.int .u8 (x : Int), .int .u8 (y : Int), .int .u8 (k : Int), .slice A ws.length c], .int .i64 h, .int .i64 q] w fun r w' => r = .returned (.bool true) ∧ Below w.heap.size w w' := by
  obtain ⟨sl, bm, bk, E, hpl⟩ := Vol.pl_any x y k
  have HL := Lib.hid (fun w' (hb : Below w.heap.size w w') => lives_any w' (hT.below hb hT.lt))
  have HO := Lib.hid (fun w' (hb : Below w.heap.size w w') => copen_any w' x y k hx hy hk A c (hws.keep hb) hpl)
  have hn20 := hpl.n20
  have hat := hpl.at
  have HPL := Lib.hid hpl
  obtain ⟨n, hn⟩ : ∃ n, n = gn x := ⟨_, rfl⟩
  obtain ⟨m, hm⟩ : ∃ m, m = gn y := ⟨_, rfl⟩
  obtain ⟨s, hs⟩ : ∃ s, s = gs k := ⟨_, rfl⟩
  rw [← hn, ← hm, ← hs] at HO HPL hat
  rw [← hn] at hn20
  have HAT := Lib.hid hat
  clear hn hm hs hpl hT hws hat
  go_enter Tryz.func4, Tryz.ntmps4
  have HB0 := Lib.hid ((Below.refl w.heap.size w).alloc (Nat.le_refl _) (.cells #[.int .u8 (x : Int), .int .u8 (y : Int), .int .u8 (k : Int), .slice A ws.length c] 24))
  have HR0 := Lib.hid (hb_new w #[.int .u8 (x : Int), .int .u8 (y : Int), .int .u8 (k : Int), .slice A ws.length c] 24)
  go_wp2_with fail
  generalize w.alloc (.cells #[.int .u8 (x : Int), .int .u8 (y : Int), .int .u8 (k : Int), .slice A ws.length c] 24) = w0 at *
  refine (HL.out _ HB0.out).mono ?_
  rintro e w1 ⟨rfl, hb⟩
  have HB1 := Lib.hid (HB0.out.trans (hb.mono HB0.out.size))
  have HR1 := HR0.out.keep hb
  clear hb HL HB0 HR0
  have r0 := HR1.cell 0
  have r1 := HR1.cell 1
  have r2 := HR1.cell 2
  have r3 := HR1.cell 3
  have rl := HR1.lt
  clear HR1
  go_wp2_with fail
  refine (HO.out _ HB1.out).mono ?_
  rintro e w3 ⟨Q, vb, a, g, gc, rfl, hov⟩
  clear r0 r1 r2 r3 rl
  have hb4 := (Below.refl w3.heap.size w3).alloc (Nat.le_refl _) (.cells (dv n m s sl bm bk E (.slice (some ⟨g, 0, none⟩) E gc)) 30)
  have HV4 := Lib.hid (hov.vo.keep hb4)
  have HD4 := Lib.hid (hov.wds.keep hb4)
  have HLN := Lib.hid hov.len
  have HB4 := Lib.hid ((HB1.out.trans (hov.below.mono HB1.out.size)).trans (hb4.mono (Nat.le_trans HB1.out.size hov.below.size)))
  have HX4 := Lib.hid (hb_new w3 (dv n m s sl bm bk E (.slice (some ⟨g, 0, none⟩) E gc)) 30)
  clear hov hb4 HO HB1
  unfold dv at HV4 HB4 HX4 HD4 ⊢
  go_wp2_with fail
  generalize w3.alloc (.cells #[.int .i64 (n : Int), .int .i64 (m : Int), .int .i64 (s : Int), .int .i64 16, .int .i64 (sl : Int), .int .i64 (bm : Int), .int .i64 (bk : Int), .int .i64 (E : Int), .slice (some ⟨g, 0, none⟩) E gc] 30) = w4 at *
  generalize w3.heap.size = b3 at *
  clear w3
  have hrd := read_any HV4.out h
  rw [show 16 + m * 8 = sl by have := HAT.out; omega] at hrd
  have hrr := fun w' (hb : Below w4.heap.size w4 w') => rread_any w' (gc := gc) HPL.out (HD4.out.keep hb) HLN.out h
  obtain ⟨er, is, hei⟩ := er_any (rd (pat (fw (rawW n m s E ws) sl) n) n h)
  have hmy : Mays ((rd (pat (fw (rawW n m s E ws) sl) n) n h).getD []) := rd_mays
  have hfew : ((rd (pat (fw (rawW n m s E ws) sl) n) n h).getD []).length ≤ n := rd_few
  have HRD := Lib.hid (hrd.mono fun r w' => rdto hei)
  have HRR := Lib.hid (fun w' (hb : Below w4.heap.size w4 w') => (hrr w' hb).mono fun r w'' => rrto hei)
  have HEI := Lib.hid (show (er = 0 ∧ is = true) ∨ (er = 2 ∧ is = false) from by
    rcases hei with ⟨_, h1, h2⟩ | ⟨_, h1, h2⟩
    · exact .inl ⟨h1, h2⟩
    · exact .inr ⟨h1, h2⟩)
  clear hrd hrr hei HV4 HD4 HPL HLN
  generalize (rd (pat (fw (rawW n m s E ws) sl) n) n h).getD [] = l at *
  have HMY := Lib.hid hmy
  clear hmy
  refine HRD.out.mono ?_
  rintro e w5 ⟨A5, c5, B5, d5, rfl, hn5, hp5, hb⟩
  have hal := (Below.refl w5.heap.size w5).alloc (Nat.le_refl _) (.cells #[.slice A5 l.length c5, .slice B5 l.length d5] 36)
  have hb6 := hb.trans (hal.mono hb.size)
  have HB6 := Lib.hid hb6
  have HN6 := Lib.hid (hn5.keep hal)
  have HP6 := Lib.hid (hp5.keep hal)
  have HC6 := Lib.hid (hb_new w5 #[.slice A5 l.length c5, .slice B5 l.length d5] 36)
  have HX6 := HX4.out.keep hb6
  have v0 := HX6.cell 0
  have v1 := HX6.cell 1
  have v2 := HX6.cell 2
  have v3 := HX6.cell 3
  have v4 := HX6.cell 4
  have v5 := HX6.cell 5
  have v6 := HX6.cell 6
  have v7 := HX6.cell 7
  have v8 := HX6.cell 8
  have vl := HX6.lt
  clear hb hal hb6 hn5 hp5 HX6 HX4 HRD
  unfold dv at HRR
  go_wp2_with fail
  generalize w5.alloc (.cells #[.slice A5 l.length c5, .slice B5 l.length d5] 36) = w6 at *
  generalize w5.heap.size = bc at *
  clear w5
  refine (HRR.out _ HB6.out).mono ?_
  rintro e w7 ⟨A7, c7, B7, d7, rfl, hn7, hp7, hb⟩
  clear v0 v1 v2 v3 v4 v5 v6 v7 v8 vl HRR
  have hal := (Below.refl w7.heap.size w7).alloc (Nat.le_refl _) (.cells #[.slice A7 l.length c7, .slice B7 l.length d7] 46)
  have hb8 := hb.trans (hal.mono hb.size)
  have HB8 := Lib.hid (HB6.out.trans (hb8.mono HB6.out.size))
  have HN8 := Lib.hid (HN6.out.keep hb8)
  have HP8 := Lib.hid (HP6.out.keep hb8)
  have HC8 := Lib.hid (HC6.out.keep hb8)
  have HM8 := Lib.hid (hn7.keep hal)
  have HO8 := Lib.hid (hp7.keep hal)
  have HW8 := Lib.hid (hb_new w7 #[.slice A7 l.length c7, .slice B7 l.length d7] 46)
  clear hb hal hb8 hn7 hp7 HB6 HN6 HP6 HC6
  have x0 := HC8.out.cell 0
  have x1 := HC8.out.cell 1
  have xl := HC8.out.lt
  go_wp2_with fail
  have hsm := lsame_yes _ A5 B5 A7 B7 c5 d5 c7 d7 l (by omega) HN8.out HM8.out HP8.out HO8.out
  refine hsm.mono ?_
  rintro e w9 ⟨rfl, hb⟩
  have HB9 := Lib.hid (HB8.out.trans (hb.mono HB8.out.size))
  have HP9 := Lib.hid (HP8.out.keep hb)
  have HC9 := Lib.hid (HC8.out.keep hb)
  have HO9 := Lib.hid (HO8.out.keep hb)
  have HW9 := Lib.hid (HW8.out.keep hb)
  clear hb hsm HB8 HN8 HP8 HC8 HM8 HO8 HW8 x0 x1 xl
  generalize w7.heap.size = bw at *
  clear w7
  have HRB := Lib.hid (fun w' (hb : Below w9.heap.size w9 w') => rblocks_any w' A7 B7 l.length c7 d7 l (HO9.out.keep hb) HMY.out (by omega))
  have x0 := HC9.out.cell 0
  have x1 := HC9.out.cell 1
  have xl := HC9.out.lt
  have y0 := HW9.out.cell 0
  have y1 := HW9.out.cell 1
  have yl := HW9.out.lt
  rcases HEI.out with ⟨rfl, rfl⟩ | ⟨rfl, rfl⟩
  · go_wp2_with fail
    refine (HRB.out _ (Below.refl _ _)).mono ?_
    rintro e w10 ⟨G, gg, rfl, hng, hgg, hb⟩
    have HB10 := Lib.hid hb
    have HG10 := Lib.hid hng
    have HGG := Lib.hid hgg
    have hx0 := (HC9.out.keep hb).cell 0
    have hx1 := (HC9.out.keep hb).cell 1
    have hxl := (HC9.out.keep hb).lt
    clear hb hng hgg HRB x0 x1 xl y0 y1 yl
    obtain ⟨p1, p2, hfd, hf1, hf2⟩ := find_all l HMY.out (by omega) q hq.2
    have HFD := Lib.hid hfd
    have HF1 := Lib.hid hf1
    have HF2 := Lib.hid hf2
    clear hfd hf1 hf2
    go_wp2_with fail
    refine (HFD.out _ _ _ _ _ _ (HP9.out.keep HB10.out)).mono ?_
    rintro e w11 ⟨rfl, hb⟩
    have HB11 := Lib.hid (HB10.out.trans (hb.mono HB10.out.size))
    have HG11 := Lib.hid (HG10.out.keep hb)
    clear hb HB10 HG10 hx0 hx1 hxl HFD
    have hx0 := (HC9.out.keep HB11.out).cell 0
    have hx1 := (HC9.out.keep HB11.out).cell 1
    have hxl := (HC9.out.keep HB11.out).lt
    go_wp2_with fail
    refine (runs_any _ _ _ _ _ _ l (HP9.out.keep HB11.out) HMY.out (by omega)).mono ?_
    rintro e w12 ⟨R, rc, rfl, hrs, hb⟩
    have HB12 := Lib.hid (HB11.out.trans (hb.mono HB11.out.size))
    have HG12 := Lib.hid (HG11.out.keep hb)
    have HRS := Lib.hid hrs
    clear hb hrs HB11 HG11 hx0 hx1 hxl
    have hx0 := (HC9.out.keep HB12.out).cell 0
    have hx1 := (HC9.out.keep HB12.out).cell 1
    have hxl := (HC9.out.keep HB12.out).lt
    have hy0 := (HW9.out.keep HB12.out).cell 0
    have hy1 := (HW9.out.keep HB12.out).cell 1
    have hyl := (HW9.out.keep HB12.out).lt
    go_wp2_with fail
    refine (blocks_any _ _ _ _ _ _ l (HP9.out.keep HB12.out) HMY.out (by omega)).mono ?_
    rintro e w13 ⟨G2, gg2, rfl, hng2, hb⟩
    have HB13 := Lib.hid (HB12.out.trans (hb.mono HB12.out.size))
    have HG13 := Lib.hid (HG12.out.keep hb)
    have HRS13 := Lib.hid (HRS.out.keep hb)
    have hsm := rsame_yes w13 G2 G gg2 gg ((blk l).map Int.ofNat) hng2 (HG12.out.keep hb)
    rw [List.length_map, blk_len] at hsm
    have HSM := Lib.hid hsm
    clear hb hng2 HB12 HG12 HRS hx0 hx1 hxl hy0 hy1 hyl hsm
    have hx0 := (HC9.out.keep HB13.out).cell 0
    have hx1 := (HC9.out.keep HB13.out).cell 1
    have hxl := (HC9.out.keep HB13.out).lt
    have hy0 := (HW9.out.keep HB13.out).cell 0
    have hy1 := (HW9.out.keep HB13.out).cell 1
    have hyl := (HW9.out.keep HB13.out).lt
    go_wp2_with fail
    refine HSM.out.mono ?_
    rintro e w14 ⟨rfl, hb⟩
    have HB14 := Lib.hid (HB13.out.trans (hb.mono HB13.out.size))
    have HG14 := Lib.hid (HG13.out.keep hb)
    have HRS14 := Lib.hid (HRS13.out.keep hb)
    clear hb HB13 HG13 HRS13 hx0 hx1 hxl hy0 hy1 hyl HSM
    have hx0 := (HC9.out.keep HB14.out).cell 0
    have hx1 := (HC9.out.keep HB14.out).cell 1
    have hxl := (HC9.out.keep HB14.out).lt
    have hy0 := (HW9.out.keep HB14.out).cell 0
    have hy1 := (HW9.out.keep HB14.out).cell 1
    have hyl := (HW9.out.keep HB14.out).lt
    go_wp2_with fail
    refine (count_any _ _ _ _ _ _ l (HP9.out.keep HB14.out) HMY.out (by omega)).mono ?_
    rintro e w15 ⟨rfl, hb⟩
    have HB15 := Lib.hid (HB14.out.trans (hb.mono HB14.out.size))
    have HG15 := Lib.hid (HG14.out.keep hb)
    have HRS15 := Lib.hid (HRS14.out.keep hb)
    clear hb HB14 HG14 HRS14 hx0 hx1 hxl hy0 hy1 hyl
    have hx0 := (HC9.out.keep HB15.out).cell 0
    have hx1 := (HC9.out.keep HB15.out).cell 1
    have hxl := (HC9.out.keep HB15.out).lt
    have hy0 := (HW9.out.keep HB15.out).cell 0
    have hy1 := (HW9.out.keep HB15.out).cell 1
    have hyl := (HW9.out.keep HB15.out).lt
    go_wp2_with fail
    clear hx0 hx1 hxl hy0 hy1 hyl
    go_loopw [91] (fun i wr => ∃ t : Nat, t ≤ l.length ∧ i = .int .i64 (t : Int) ∧ Below w15.heap.size w15 wr) (fun i _ => l.length - (intOf i).toNat)
    case atStart => exact ⟨0, Nat.zero_le _, rfl, Below.refl _ _⟩
    case round =>
      obtain ⟨t, ht, rfl, hb⟩ := hrel
      by_cases hlt : t < l.length
      · obtain ⟨b7, o7, rfl, hbb, hc0, hc1, hc2⟩ := (HO9.out.keep (HB15.out.trans (hb.mono HB15.out.size))).at' t hlt
        obtain ⟨b8, o8, rfl, hbb2, hd0, hd1⟩ := (HRS15.out.keep hb).at' t (by rw [List.length_map]; exact hlt)
        simp only [List.getElem_map] at hd0 hd1
        generalize l[t] = p at *
        obtain ⟨p0, px, py, pq⟩ := p
        simp only at hc0 hc1 hc2 hd0 hd1
        generalize Slo.nx pq = z at *
        have hal := (Below.refl wr.heap.size wr).alloc (Nat.le_refl _) (.cells #[.int .i64 (px : Int), .int .i64 (py : Int), .int .i64 z] 57)
        have hx := hb_new wr #[.int .i64 (px : Int), .int .i64 (py : Int), .int .i64 z] 57
        have m0 := hx.cell 0
        have m1 := hx.cell 1
        have ml := hx.lt
        have e0 := (hal.cell (p := ⟨b8, o8 + t * 2, none⟩) hbb2).trans hd0
        have e1 := (hal.cell (p := ⟨b8, o8 + t * 2 + 1, none⟩) hbb2).trans hd1
        have el := Nat.lt_of_lt_of_le hbb2 hal.size
        have hti : (t : Int) < (l.length : Int) := by omega
        have HB := Lib.hid ((hb.trans (hal.mono hb.size)).trans (bel_drew _))
        clear hb hal hx hd0 hd1 hbb2
        go_wp2
        generalize wr.alloc (.cells #[.int .i64 (px : Int), .int .i64 (py : Int), .int .i64 z] 57) = w17 at *
        go_region
        go_wp2
        exact ⟨⟨t + 1, by omega, by go_num, HB.out⟩, by simp [intOf]; omega⟩
      · obtain rfl : t = l.length := by omega
        have HB16 := Lib.hid (HB15.out.trans (hb.mono HB15.out.size))
        have HG16 := Lib.hid (HG15.out.keep hb)
        have HBF := Lib.hid ((HB4.out.trans (HB9.out.mono HB4.out.size)).trans (HB16.out.mono (Nat.le_trans HB4.out.size HB9.out.size)))
        clear hb
        by_cases hk0 : q < 0
        · obtain ⟨rfl, rfl⟩ := HF1.out (.inl hk0)
          have hk0b : decide (q < 0) = true := decide_eq_true hk0
          go_wp2
          go_ret
          exact ⟨rfl, HBF.out⟩
        · by_cases hk1 : (tot l : Int) ≤ q
          · obtain ⟨rfl, rfl⟩ := HF1.out (.inr hk1)
            have hk0b : decide (q < 0) = false := decide_eq_false hk0
            have hk1b : decide ((tot l : Int) ≤ q) = true := decide_eq_true hk1
            go_wp2
            go_ret
            exact ⟨rfl, HBF.out⟩
          · obtain ⟨k', rfl⟩ := Int.eq_ofNat_of_zero_le (by omega : 0 ≤ q)
            have hk2 : k' < tot l := by omega
            obtain ⟨j, b, rfl, rfl, hjb, hjl, hj1, hj2⟩ := HF2.out k' rfl hk2
            obtain ⟨bg, og, rfl, hbg, hg0⟩ := HG16.out.at' k' (by rw [List.length_map, blk_len]; exact hk2)
            obtain ⟨b7, o7, rfl, hbb, hc0, hc1, hc2⟩ := (HO9.out.keep HB16.out).at' j hjl
            have hgv : ((blk l).map Int.ofNat)[k']'(by rw [List.length_map, blk_len]; exact hk2) = (b : Int) := by
              rw [List.getElem_map]
              have := (List.getElem?_eq_some_iff.1 hjb).2
              rw [this]
              rfl
            rw [hgv] at hg0
            have hpc := Slo.may_lt (HMY.out _ (List.getElem_mem hjl))
            have hk0b : decide ((k' : Int) < 0) = false := decide_eq_false (by omega)
            have hk1b : decide ((tot l : Int) ≤ (k' : Int)) = false := decide_eq_false (by omega)
            have hk2b : (k' : Int) < (tot l : Int) := by omega
            have hji : (j : Int) < (l.length : Int) := by omega
            generalize l[j] = p at *
            obtain ⟨p0, px, py, pq⟩ := p
            simp only at hc0 hc1 hc2 hj1 hj2 hpc
            generalize Slo.nx pq = z at *
            have s1 : (px : Int) ≤ (b : Int) := by omega
            have s2 : (b : Int) - (px : Int) < (py : Int) := by omega
            have s3 : IntKind.i64.wrap ((b : Int) - (px : Int)) = (b : Int) - (px : Int) := IntWalk.i64_in _ (by omega)
            have hy0 := (HW9.out.keep HB16.out).cell 0
            have hy1 := (HW9.out.keep HB16.out).cell 1
            have hyl := (HW9.out.keep HB16.out).lt
            have s0 : (0 : Int) ≤ (j : Int) := by omega
            clear hgv hjb hj1 hj2 HF1 HF2
            go_wp2_with fail
            go_quiet (fail)
            go_wp2
            go_ret
            exact ⟨rfl, HBF.out.trans ⟨rfl, rfl, rfl, Nat.le_refl _, fun _ _ => rfl⟩⟩
  · go_wp2_with fail
    refine (HRB.out _ (Below.refl _ _)).mono ?_
    rintro e w10 ⟨G, gg, rfl, hng, hgg, hb⟩
    have HB10 := Lib.hid hb
    have HG10 := Lib.hid hng
    have HGG := Lib.hid hgg
    have hx0 := (HC9.out.keep hb).cell 0
    have hx1 := (HC9.out.keep hb).cell 1
    have hxl := (HC9.out.keep hb).lt
    clear hb hng hgg HRB x0 x1 xl y0 y1 yl
    obtain ⟨p1, p2, hfd, hf1, hf2⟩ := find_all l HMY.out (by omega) q hq.2
    have HFD := Lib.hid hfd
    have HF1 := Lib.hid hf1
    have HF2 := Lib.hid hf2
    clear hfd hf1 hf2
    go_wp2_with fail
    refine (HFD.out _ _ _ _ _ _ (HP9.out.keep HB10.out)).mono ?_
    rintro e w11 ⟨rfl, hb⟩
    have HB11 := Lib.hid (HB10.out.trans (hb.mono HB10.out.size))
    have HG11 := Lib.hid (HG10.out.keep hb)
    clear hb HB10 HG10 hx0 hx1 hxl HFD
    have hx0 := (HC9.out.keep HB11.out).cell 0
    have hx1 := (HC9.out.keep HB11.out).cell 1
    have hxl := (HC9.out.keep HB11.out).lt
    go_wp2_with fail
    refine (runs_any _ _ _ _ _ _ l (HP9.out.keep HB11.out) HMY.out (by omega)).mono ?_
    rintro e w12 ⟨R, rc, rfl, hrs, hb⟩
    have HB12 := Lib.hid (HB11.out.trans (hb.mono HB11.out.size))
    have HG12 := Lib.hid (HG11.out.keep hb)
    have HRS := Lib.hid hrs
    clear hb hrs HB11 HG11 hx0 hx1 hxl
    have hx0 := (HC9.out.keep HB12.out).cell 0
    have hx1 := (HC9.out.keep HB12.out).cell 1
    have hxl := (HC9.out.keep HB12.out).lt
    have hy0 := (HW9.out.keep HB12.out).cell 0
    have hy1 := (HW9.out.keep HB12.out).cell 1
    have hyl := (HW9.out.keep HB12.out).lt
    go_wp2_with fail
    refine (blocks_any _ _ _ _ _ _ l (HP9.out.keep HB12.out) HMY.out (by omega)).mono ?_
    rintro e w13 ⟨G2, gg2, rfl, hng2, hb⟩
    have HB13 := Lib.hid (HB12.out.trans (hb.mono HB12.out.size))
    have HG13 := Lib.hid (HG12.out.keep hb)
    have HRS13 := Lib.hid (HRS.out.keep hb)
    have hsm := rsame_yes w13 G2 G gg2 gg ((blk l).map Int.ofNat) hng2 (HG12.out.keep hb)
    rw [List.length_map, blk_len] at hsm
    have HSM := Lib.hid hsm
    clear hb hng2 HB12 HG12 HRS hx0 hx1 hxl hy0 hy1 hyl hsm
    have hx0 := (HC9.out.keep HB13.out).cell 0
    have hx1 := (HC9.out.keep HB13.out).cell 1
    have hxl := (HC9.out.keep HB13.out).lt
    have hy0 := (HW9.out.keep HB13.out).cell 0
    have hy1 := (HW9.out.keep HB13.out).cell 1
    have hyl := (HW9.out.keep HB13.out).lt
    go_wp2_with fail
    refine HSM.out.mono ?_
    rintro e w14 ⟨rfl, hb⟩
    have HB14 := Lib.hid (HB13.out.trans (hb.mono HB13.out.size))
    have HG14 := Lib.hid (HG13.out.keep hb)
    have HRS14 := Lib.hid (HRS13.out.keep hb)
    clear hb HB13 HG13 HRS13 hx0 hx1 hxl hy0 hy1 hyl HSM
    have hx0 := (HC9.out.keep HB14.out).cell 0
    have hx1 := (HC9.out.keep HB14.out).cell 1
    have hxl := (HC9.out.keep HB14.out).lt
    have hy0 := (HW9.out.keep HB14.out).cell 0
    have hy1 := (HW9.out.keep HB14.out).cell 1
    have hyl := (HW9.out.keep HB14.out).lt
    go_wp2_with fail
    refine (count_any _ _ _ _ _ _ l (HP9.out.keep HB14.out) HMY.out (by omega)).mono ?_
    rintro e w15 ⟨rfl, hb⟩
    have HB15 := Lib.hid (HB14.out.trans (hb.mono HB14.out.size))
    have HG15 := Lib.hid (HG14.out.keep hb)
    have HRS15 := Lib.hid (HRS14.out.keep hb)
    clear hb HB14 HG14 HRS14 hx0 hx1 hxl hy0 hy1 hyl
    have hx0 := (HC9.out.keep HB15.out).cell 0
    have hx1 := (HC9.out.keep HB15.out).cell 1
    have hxl := (HC9.out.keep HB15.out).lt
    have hy0 := (HW9.out.keep HB15.out).cell 0
    have hy1 := (HW9.out.keep HB15.out).cell 1
    have hyl := (HW9.out.keep HB15.out).lt
    go_wp2_with fail
    clear hx0 hx1 hxl hy0 hy1 hyl
    go_loopw [91] (fun i wr => ∃ t : Nat, t ≤ l.length ∧ i = .int .i64 (t : Int) ∧ Below w15.heap.size w15 wr) (fun i _ => l.length - (intOf i).toNat)
    case atStart => exact ⟨0, Nat.zero_le _, rfl, Below.refl _ _⟩
    case round =>
      obtain ⟨t, ht, rfl, hb⟩ := hrel
      by_cases hlt : t < l.length
      · obtain ⟨b7, o7, rfl, hbb, hc0, hc1, hc2⟩ := (HO9.out.keep (HB15.out.trans (hb.mono HB15.out.size))).at' t hlt
        obtain ⟨b8, o8, rfl, hbb2, hd0, hd1⟩ := (HRS15.out.keep hb).at' t (by rw [List.length_map]; exact hlt)
        simp only [List.getElem_map] at hd0 hd1
        generalize l[t] = p at *
        obtain ⟨p0, px, py, pq⟩ := p
        simp only at hc0 hc1 hc2 hd0 hd1
        generalize Slo.nx pq = z at *
        have hal := (Below.refl wr.heap.size wr).alloc (Nat.le_refl _) (.cells #[.int .i64 (px : Int), .int .i64 (py : Int), .int .i64 z] 57)
        have hx := hb_new wr #[.int .i64 (px : Int), .int .i64 (py : Int), .int .i64 z] 57
        have m0 := hx.cell 0
        have m1 := hx.cell 1
        have ml := hx.lt
        have e0 := (hal.cell (p := ⟨b8, o8 + t * 2, none⟩) hbb2).trans hd0
        have e1 := (hal.cell (p := ⟨b8, o8 + t * 2 + 1, none⟩) hbb2).trans hd1
        have el := Nat.lt_of_lt_of_le hbb2 hal.size
        have hti : (t : Int) < (l.length : Int) := by omega
        have HB := Lib.hid ((hb.trans (hal.mono hb.size)).trans (bel_drew _))
        clear hb hal hx hd0 hd1 hbb2
        go_wp2
        generalize wr.alloc (.cells #[.int .i64 (px : Int), .int .i64 (py : Int), .int .i64 z] 57) = w17 at *
        go_region
        go_wp2
        exact ⟨⟨t + 1, by omega, by go_num, HB.out⟩, by simp [intOf]; omega⟩
      · obtain rfl : t = l.length := by omega
        have HB16 := Lib.hid (HB15.out.trans (hb.mono HB15.out.size))
        have HG16 := Lib.hid (HG15.out.keep hb)
        have HBF := Lib.hid ((HB4.out.trans (HB9.out.mono HB4.out.size)).trans (HB16.out.mono (Nat.le_trans HB4.out.size HB9.out.size)))
        clear hb
        by_cases hk0 : q < 0
        · obtain ⟨rfl, rfl⟩ := HF1.out (.inl hk0)
          have hk0b : decide (q < 0) = true := decide_eq_true hk0
          go_wp2
          go_ret
          exact ⟨rfl, HBF.out⟩
        · by_cases hk1 : (tot l : Int) ≤ q
          · obtain ⟨rfl, rfl⟩ := HF1.out (.inr hk1)
            have hk0b : decide (q < 0) = false := decide_eq_false hk0
            have hk1b : decide ((tot l : Int) ≤ q) = true := decide_eq_true hk1
            go_wp2
            go_ret
            exact ⟨rfl, HBF.out⟩
          · obtain ⟨k', rfl⟩ := Int.eq_ofNat_of_zero_le (by omega : 0 ≤ q)
            have hk2 : k' < tot l := by omega
            obtain ⟨j, b, rfl, rfl, hjb, hjl, hj1, hj2⟩ := HF2.out k' rfl hk2
            obtain ⟨bg, og, rfl, hbg, hg0⟩ := HG16.out.at' k' (by rw [List.length_map, blk_len]; exact hk2)
            obtain ⟨b7, o7, rfl, hbb, hc0, hc1, hc2⟩ := (HO9.out.keep HB16.out).at' j hjl
            have hgv : ((blk l).map Int.ofNat)[k']'(by rw [List.length_map, blk_len]; exact hk2) = (b : Int) := by
              rw [List.getElem_map]
              have := (List.getElem?_eq_some_iff.1 hjb).2
              rw [this]
              rfl
            rw [hgv] at hg0
            have hpc := Slo.may_lt (HMY.out _ (List.getElem_mem hjl))
            have hk0b : decide ((k' : Int) < 0) = false := decide_eq_false (by omega)
            have hk1b : decide ((tot l : Int) ≤ (k' : Int)) = false := decide_eq_false (by omega)
            have hk2b : (k' : Int) < (tot l : Int) := by omega
            have hji : (j : Int) < (l.length : Int) := by omega
            generalize l[j] = p at *
            obtain ⟨p0, px, py, pq⟩ := p
            simp only at hc0 hc1 hc2 hj1 hj2 hpc
            generalize Slo.nx pq = z at *
            have s1 : (px : Int) ≤ (b : Int) := by omega
            have s2 : (b : Int) - (px : Int) < (py : Int) := by omega
            have s3 : IntKind.i64.wrap ((b : Int) - (px : Int)) = (b : Int) - (px : Int) := IntWalk.i64_in _ (by omega)
            have hy0 := (HW9.out.keep HB16.out).cell 0
            have hy1 := (HW9.out.keep HB16.out).cell 1
            have hyl := (HW9.out.keep HB16.out).lt
            have s0 : (0 : Int) ≤ (j : Int) := by omega
            clear hgv hjb hj1 hj2 HF1 HF2
            go_wp2_with fail
            go_quiet (fail)
            go_wp2
            go_ret
            exact ⟨rfl, HBF.out.trans ⟨rfl, rfl, rfl, Nat.le_refl _, fun _ _ => rfl⟩⟩
end
end Chn
end Go.Proofs.YtleehhpodgbomaaGreatDoor
