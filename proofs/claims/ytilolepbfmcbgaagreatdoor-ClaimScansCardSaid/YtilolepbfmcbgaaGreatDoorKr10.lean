/- Texts laid together: ChnWrite, ChnOpen, ChnLives, ClmLives, ClmRoomLaw, PackArgs, VolArgs, BmCard. -/
import Derived.Test.YtilolepbfmcbgaaGreatDoorKr9
import Derived.Test.YtilolepbfmcbgaaGreatDoorKr7
import Derived.Test.YtilolepbfmcbgaaGreatDoorKr5
import Derived.Test.YtilolepbfmcbgaaGreatDoorKa3
import Derived.Test.YtilolepbfmcbgaaGreatDoorKr8
import Derived.IntWalk
import Derived.Test.YtilolepbfmcbgaaGreatDoorKa1
import Derived.Deep.Slices
import Derived.OpenShut
import Derived.ChangeOld
import Derived.Lib.SmallJoins
import Derived.Test.YtilolepbfmcbgaaGreatDoorTie
import Derived.Test.YtilolepbfmcbgaaGreatDoorCards
import Derived.ProofKit
import Derived.LaidMore
import Derived.Stop.Joined
import Derived.Test.YtilolepbfmcbgaaGreatDoorKa2
import Derived.Test.YtilolepbfmcbgaaGreatDoorKr1
import Derived.Test.YtilolepbfmcbgaaGreatDoorKr2
import Derived.Test.YtilolepbfmcbgaaGreatDoorKr3
import Derived.Test.YtilolepbfmcbgaaGreatDoorKr4
import Derived.Test.YtilolepbfmcbgaaGreatDoorKr6
/- chain.Write. -/
namespace Go.Proofs.YtilolepbfmcbgaaGreatDoor
open Go.RowKit Go.Shelf Go.MapKept
attribute [local go_sem] Oper.semAt_some
namespace Chn
open Vol (Vo Up Kq)

set_option maxHeartbeats 1000000 in
theorem back_in (F : Fence) (f : Nat) (hf : F.fn 111) (hro : F.round = none) (A : Option Addr) (n c : Nat) (w : World) :
    CallsIn F f Tryz.prog 111 #[.slice A n c] w fun e w' => e = .returned (.func (.func 150) #[] #[.pointer (some ⟨w.heap.size, 0, none⟩)]) ∧ w' = w.alloc (.cells #[.slice A n c] 50) := by
  refine callsIn_of_wp Tryz.func111 rfl hf ?_ hro
  simp only [Tryz.ntmps111, List.size_toArray, List.length_cons, List.length_nil, Nat.reduceAdd, Nat.reduceSub, Array.replicate_succ, Array.replicate_zero, List.push_toArray, List.append_toArray, List.nil_append, List.cons_append]
  gi_wp2
  go_ret
  exact ⟨rfl, rfl⟩

section
variable {Q : Nat → Prop} {w w' : World} {vb a n m s : Nat} {W : List Nat} {st sn : Nat}
/-- but one block, which isn't the device's, all is as it was -/
theorem up_off (h : Up Q w a W st sn) {L : Nat} (hL : Q L) (ho : Pm.Off (fun k => k = L) w w') : Up Q w' a W st sn := by
  obtain ⟨A, ⟨D, hrep, e, ok, hf, hq⟩, r⟩ := h
  exact ⟨A, ⟨D, hrep.keep (fun k hk => ho.block k (hrep.foot_lt hk) (fun e => hf k hk (by rw [e]; exact hL))), e, ok, hf, fun k hk => Nat.lt_of_lt_of_le (hq k hk) ho.size⟩, r⟩
theorem vo_off (h : Vo Q w vb a n m s W st sn) {L : Nat} (hL : Q L) (hne : vb ≠ L) (ho : Pm.Off (fun k => k = L) w w') : Vo Q w' vb a n m s W st sn :=
  ⟨(ho.block vb h.lt hne).trans h.vol, h.q, up_off h.up hL ho, h.may, h.len⟩
theorem box_off {b : Nat} {t : TypeId} {v : Value} (h : Boxed w b t v) {L : Nat} (hne : b ≠ L) (ho : Pm.Off (fun k => k = L) w w') : Boxed w' b t v := (ho.block b h.lt hne).trans h
theorem kq_off {w2 : World} (h : Kq Q w w') {L : Nat} (hL : w.heap.size ≤ L) (ho : Pm.Off (fun k => k = L) w' w2) : Kq Q w w2 := Pm.Off.trans h ho (fun b hb e => by omega)
theorem prs_kq {B : Option Addr} {l : List (Int × Int)} (h : Prs w B l) (hk : Kq Q w w') (hq : ∀ x, B = some x → l ≠ [] → Q x.block) : Prs w' B l :=
  ⟨h.i64, h.len, fun j hj => by
    obtain ⟨b, o, e, hlt, hc, hd⟩ := h.at' j hj
    have hb := hk.at (hq _ e (fun h0 => by rw [h0] at hj; exact absurd hj (by simp))) hlt
    exact ⟨b, o, e, Nat.lt_of_lt_of_le hlt hk.size, (World.cell?_of_block (w := w) (a := ⟨b, o + j * 2, none⟩) hb).trans hc, (World.cell?_of_block (w := w) (a := ⟨b, o + j * 2 + 1, none⟩) hb).trans hd⟩⟩
theorem nts_kq {B : Option Addr} {l : List Int} (h : Pack.Nts w B l) (hk : Kq Q w w') (hq : ∀ x, B = some x → l ≠ [] → Q x.block) : Pack.Nts w' B l :=
  ⟨h.i64, h.len, fun j hj => by
    obtain ⟨b, o, e, hlt, hc⟩ := h.at' j hj
    have hb := hk.at (hq _ e (fun h0 => by rw [h0] at hj; exact absurd hj (by simp))) hlt
    exact ⟨b, o, e, Nat.lt_of_lt_of_le hlt hk.size, (World.cell?_of_block (w := w) (a := ⟨b, o + j, none⟩) hb).trans hc⟩⟩

/-- between two rounds -/
structure Mid (Q : Nat → Prop) (w : World) (b0 b1 b2 b3 b4 b5 : Nat) (vb a n m s : Nat) (W : List Nat) (st sn : Nat) (A B : Option Addr) (c d : Nat) (S : List Nat) (R : List (Nat × Nat)) (k : Nat) (X : World) : Prop where
  vo : Vo (fun x => Q x ∨ (w.heap.size ≤ x ∧ x < b5)) X vb a n m s (wk W (16 + m * 8) S R k) (st + 2 * k) (sn + k)
  vol : Boxed X b0 26 (.pointer (some ⟨vb, 0, none⟩))
  runs : Boxed X b1 173 (.slice B R.length d)
  err : Boxed X b2 34 (.int .i64 0)
  next : Boxed X b3 3 (.int .i64 (hd S (S.length - k)))
  slots : Boxed X b4 50 (.slice A S.length c)
  kq : Kq Q w X
  size : b5 ≤ X.heap.size

theorem get_set {l : Array Bool} {i : Nat} (hi : i < l.size) (j : Nat) : (l.setIfInBounds i true).getD j false = if i = j then true else l.getD j false := by
  simp only [Array.getD_eq_getD_getElem?, Array.getElem?_setIfInBounds]
  by_cases h : i = j
  · subst h
    simp [hi]
  · simp [h]
theorem run_blocks (u v x : Value) (W : World) : (Instr.field 85 (.agg #[u, v, x]) 0).run Tryz.prog W = .ok u W := by kernel_rfl
theorem bel_drew {N : Nat} (w : World) : Below N w w.drew := ⟨rfl, rfl, rfl, Nat.le_refl _, fun _ _ => rfl⟩
set_option maxHeartbeats 4000000 in
set_option maxRecDepth 100000 in
theorem write_no (h : Vo Q w vb a n m s W st sn) (A B : Option Addr) (c d : Nat) (ss : List Int) (rs : List (Int × Int)) (hs : Pack.Nts w A ss) (hr : Prs w B rs) (hm : mayW n ss rs = false) :
    Calls Tryz.prog 70 #[.pointer (some ⟨vb, 0, none⟩), .slice A ss.length c, .slice B rs.length d] w fun r w' => r = .returned (.int .i64 1) ∧ Below w.heap.size w w' := by
  have hn := h.num.1.2
  have HG := Lib.hid (fun w' (hb : Below w.heap.size w w') => Vol.geometry_any (h.keep hb))
  have HM := Lib.hid (fun w' (hb : Below w.heap.size w w') => mayWrite_any w' n (by omega) A B c d ss rs (hs.keep hb) (hr.keep hb))
  rw [hm] at HM
  clear h hs hr hm hn
  refine (callsIn_wide (n := 3)).1 ?_
  refine callsIn_of_wp_marks Tryz.func70 rfl trivial ?_ rfl
  simp only [Tryz.ntmps70, List.size_toArray, List.length_cons, List.length_nil, Nat.reduceAdd, Nat.reduceSub, Array.replicate_succ, Array.replicate_zero, List.push_toArray, List.append_toArray, List.nil_append, List.cons_append]
  refine wpIn_wide.2 ?_
  go_wp2_with fail
  have hb0 := (((Below.refl w.heap.size w).alloc (Nat.le_refl _) (.cells #[.pointer (some ⟨vb, 0, none⟩)] 26)).alloc (by simp) (.cells #[.slice B rs.length d] 173)).alloc (by simp; omega) (.cells #[.int .i64 0] 34)
  have bx0 : Boxed ((w.alloc (.cells #[.pointer (some ⟨vb, 0, none⟩)] 26)).alloc (.cells #[.slice B rs.length d] 173) |>.alloc (.cells #[.int .i64 0] 34)) w.heap.size 26 (.pointer (some ⟨vb, 0, none⟩)) := ((Boxed.new w 26 _).alloc _).alloc _
  have bx1 := (Boxed.new (w.alloc (.cells #[.pointer (some ⟨vb, 0, none⟩)] 26)) 173 (.slice B rs.length d)).alloc (.cells #[.int .i64 0] 34)
  have bx2 := Boxed.new ((w.alloc (.cells #[.pointer (some ⟨vb, 0, none⟩)] 26)).alloc (.cells #[.slice B rs.length d] 173)) 34 (.int .i64 0)
  simp only [World.size_alloc] at bx1 bx2
  have HB0 := Lib.hid hb0
  have BX0 := Lib.hid bx0
  have BX1 := Lib.hid bx1
  have BX2 := Lib.hid bx2
  clear hb0 bx0 bx1 bx2
  generalize ((w.alloc (.cells #[.pointer (some ⟨vb, 0, none⟩)] 26)).alloc (.cells #[.slice B rs.length d] 173)).alloc (.cells #[.int .i64 0] 34) = w0 at *
  have c0 := BX0.out.cell
  have c1 := BX1.out.cell
  have l0 := BX0.out.lt
  have l1 := BX1.out.lt
  have HC := Lib.hid (HG.out w0.drew (HB0.out.trans (bel_drew _)))
  have hrf := run_blocks (.int .i64 (n : Int)) (.int .i64 (m : Int)) (.int .i64 (s : Int))
  go_region_held3 (fun W' => W'.cell? ⟨w.heap.size, 0, none⟩ = some (.pointer (some ⟨vb, 0, none⟩)) ∧ W'.cell? ⟨w.heap.size + 1, 0, none⟩ = some (.slice B rs.length d)) (go_keep)
    (first
    | (go_at_call 37
       with_reducible refine HC.out.mono ?_
       rintro r w1 ⟨rfl, hb⟩
       have HB1 := Lib.hid ((HB0.out.trans (bel_drew w0)).trans (hb.mono HB0.out.size))
       have BX01 := Lib.hid (show Boxed w1 w.heap.size 26 (.pointer (some ⟨vb, 0, none⟩)) from (hb.block _ l0).trans BX0.out)
       have BX11 := Lib.hid (show Boxed w1 (w.heap.size + 1) 173 (.slice B rs.length d) from (hb.block _ l1).trans BX1.out)
       have BX21 := Lib.hid (show Boxed w1 (w.heap.size + 1 + 1) 34 (.int .i64 0) from (hb.block _ BX2.out.lt).trans BX2.out)
       clear hb
       have c01 := BX01.out.cell
       have c11 := BX11.out.cell
       have HC1 := Lib.hid (HM.out w1 HB1.out))
    | (go_at_call 110
       with_reducible refine HC1.out.mono ?_
       rintro r w2 ⟨rfl, hb⟩
       have HB2 := Lib.hid (HB1.out.trans (hb.mono HB1.out.size))
       have BX02 := Lib.hid (show Boxed w2 w.heap.size 26 (.pointer (some ⟨vb, 0, none⟩)) from (hb.block _ BX01.out.lt).trans BX01.out)
       have BX12 := Lib.hid (show Boxed w2 (w.heap.size + 1) 173 (.slice B rs.length d) from (hb.block _ BX11.out.lt).trans BX11.out)
       have BX22 := Lib.hid (show Boxed w2 (w.heap.size + 1 + 1) 34 (.int .i64 0) from (hb.block _ BX21.out.lt).trans BX21.out)
       clear hb
       have c02 := BX02.out.cell
       have c12 := BX12.out.cell))
  have c22 := BX22.out.cell
  have f22 := BX22.out.frozen
  clear c0 c1 l0 l1 c01 c11 c02 c12 HC HC1 BX0 BX1 BX2 BX01 BX11 BX21 BX02 BX12
  go_wp2
  refine ⟨.int .i64 1, ?_, rfl, HB2.out.setCell (p := ⟨w.heap.size + 1 + 1, 0, none⟩) (by show w.heap.size ≤ w.heap.size + 1 + 1; omega) _⟩
  simp [results, Tryz.results70, go_sem, c22]

set_option maxHeartbeats 4000000 in
set_option maxRecDepth 100000 in
theorem write_yes (h : Vo Q w vb a n m s W st sn) (A B : Option Addr) (c d : Nat) (S : List Nat) (R : List (Nat × Nat)) (hs : Pack.Nts w A (S.map Int.ofNat)) (hr : Prs w B (R.map (fun r : Nat × Nat => ((r.1 : Int), (r.2 : Int))))) (hwr : Wr n S R)
    (hqa : ∀ x, A = some x → S ≠ [] → Q x.block) (hqb : ∀ x, B = some x → R ≠ [] → Q x.block) (hst : st + 2 * S.length < 100000000000) :
    Calls Tryz.prog 70 #[.pointer (some ⟨vb, 0, none⟩), .slice A S.length c, .slice B R.length d] w fun r w' => r = .returned (.int .i64 0) ∧ Vo Q w' vb a n m s (wk W (16 + m * 8) S R S.length) (st + 2 * S.length) (sn + S.length) ∧ Kq Q w w' := by
  have hn := h.num.1.2
  have HG := Lib.hid (fun w' (hb : Below w.heap.size w w') => Vol.geometry_any (h.keep hb))
  have HM := Lib.hid (fun w' (hb : Below w.heap.size w w') => mayWrite_any w' n (by omega) A B c d (S.map Int.ofNat) (R.map (fun r : Nat × Nat => ((r.1 : Int), (r.2 : Int)))) (hs.keep hb) (hr.keep hb))
  rw [show mayW n _ _ = true from may_of hwr] at HM
  have HS := Lib.hid hs
  have HR := Lib.hid hr
  have HV := Lib.hid h
  have HWR := Lib.hid hwr
  have HQA := Lib.hid hqa
  have HQB := Lib.hid hqb
  clear h hs hr hwr hn hqa hqb
  simp only [List.length_map] at HM
  refine (callsIn_wide (n := 3)).1 ?_
  refine callsIn_of_wp_marks Tryz.func70 rfl trivial ?_ rfl
  simp only [Tryz.ntmps70, List.size_toArray, List.length_cons, List.length_nil, Nat.reduceAdd, Nat.reduceSub, Array.replicate_succ, Array.replicate_zero, List.push_toArray, List.append_toArray, List.nil_append, List.cons_append]
  refine wpIn_wide.2 ?_
  go_wp2_with fail
  have hb0 := (((Below.refl w.heap.size w).alloc (Nat.le_refl _) (.cells #[.pointer (some ⟨vb, 0, none⟩)] 26)).alloc (by simp) (.cells #[.slice B R.length d] 173)).alloc (by simp; omega) (.cells #[.int .i64 0] 34)
  have bx0 : Boxed ((w.alloc (.cells #[.pointer (some ⟨vb, 0, none⟩)] 26)).alloc (.cells #[.slice B R.length d] 173) |>.alloc (.cells #[.int .i64 0] 34)) w.heap.size 26 (.pointer (some ⟨vb, 0, none⟩)) := ((Boxed.new w 26 _).alloc _).alloc _
  have bx1 := (Boxed.new (w.alloc (.cells #[.pointer (some ⟨vb, 0, none⟩)] 26)) 173 (.slice B R.length d)).alloc (.cells #[.int .i64 0] 34)
  have bx2 := Boxed.new ((w.alloc (.cells #[.pointer (some ⟨vb, 0, none⟩)] 26)).alloc (.cells #[.slice B R.length d] 173)) 34 (.int .i64 0)
  simp only [World.size_alloc] at bx1 bx2
  have HB0 := Lib.hid hb0
  have BX0 := Lib.hid bx0
  have BX1 := Lib.hid bx1
  have BX2 := Lib.hid bx2
  clear hb0 bx0 bx1 bx2
  generalize ((w.alloc (.cells #[.pointer (some ⟨vb, 0, none⟩)] 26)).alloc (.cells #[.slice B R.length d] 173)).alloc (.cells #[.int .i64 0] 34) = w0 at *
  have c0 := BX0.out.cell
  have c1 := BX1.out.cell
  have l0 := BX0.out.lt
  have l1 := BX1.out.lt
  have HC := Lib.hid (HG.out w0.drew (HB0.out.trans (bel_drew _)))
  have hrf := run_blocks (.int .i64 (n : Int)) (.int .i64 (m : Int)) (.int .i64 (s : Int))
  go_region_held3 (fun W' => W'.cell? ⟨w.heap.size, 0, none⟩ = some (.pointer (some ⟨vb, 0, none⟩)) ∧ W'.cell? ⟨w.heap.size + 1, 0, none⟩ = some (.slice B R.length d)) (go_keep)
    (first
    | (go_at_call 37
       with_reducible refine HC.out.mono ?_
       rintro r w1 ⟨rfl, hb⟩
       have HB1 := Lib.hid ((HB0.out.trans (bel_drew w0)).trans (hb.mono HB0.out.size))
       have BX01 := Lib.hid (show Boxed w1 w.heap.size 26 (.pointer (some ⟨vb, 0, none⟩)) from (hb.block _ l0).trans BX0.out)
       have BX11 := Lib.hid (show Boxed w1 (w.heap.size + 1) 173 (.slice B R.length d) from (hb.block _ l1).trans BX1.out)
       have BX21 := Lib.hid (show Boxed w1 (w.heap.size + 1 + 1) 34 (.int .i64 0) from (hb.block _ BX2.out.lt).trans BX2.out)
       clear hb
       have c01 := BX01.out.cell
       have c11 := BX11.out.cell
       have HC1 := Lib.hid (HM.out w1 HB1.out))
    | (go_at_call 110
       with_reducible refine HC1.out.mono ?_
       rintro r w2 ⟨rfl, hb⟩
       have HB2 := Lib.hid (HB1.out.trans (hb.mono HB1.out.size))
       have BX02 := Lib.hid (show Boxed w2 w.heap.size 26 (.pointer (some ⟨vb, 0, none⟩)) from (hb.block _ BX01.out.lt).trans BX01.out)
       have BX12 := Lib.hid (show Boxed w2 (w.heap.size + 1) 173 (.slice B R.length d) from (hb.block _ BX11.out.lt).trans BX11.out)
       have BX22 := Lib.hid (show Boxed w2 (w.heap.size + 1 + 1) 34 (.int .i64 0) from (hb.block _ BX21.out.lt).trans BX21.out)
       clear hb
       have c02 := BX02.out.cell
       have c12 := BX12.out.cell))
  clear c0 c1 l0 l1 c01 c11 c02 c12 HC HC1 BX0 BX1 BX2 BX01 BX11 BX21
  go_wp2_with fail
  refine ((callsIn_wide (n := 1)).1 (back_in Fence.wide 1 trivial rfl A S.length c _)).mono ?_
  rintro r w3 ⟨rfl, rfl⟩
  go_wp2_with fail
  have hb3 := HB2.out.alloc HB2.out.size (.cells #[.int .i64 (-1)] 3)
  have hz3 := World.size_alloc w2 (.cells #[.int .i64 (-1)] 3)
  have hb4 := hb3.alloc hb3.size (.cells #[.slice A S.length c] 50)
  have hz4 := World.size_alloc (w2.alloc (.cells #[.int .i64 (-1)] 3)) (.cells #[.slice A S.length c] 50)
  have bx3 := (Boxed.new w2 3 (.int .i64 (-1))).alloc (.cells #[.slice A S.length c] 50)
  have bx4 := Boxed.new (w2.alloc (.cells #[.int .i64 (-1)] 3)) 50 (.slice A S.length c)
  rw [hz3] at bx4 hz4
  have bx0 := (BX02.out.alloc (.cells #[.int .i64 (-1)] 3)).alloc (.cells #[.slice A S.length c] 50)
  have bx1 := (BX12.out.alloc (.cells #[.int .i64 (-1)] 3)).alloc (.cells #[.slice A S.length c] 50)
  have bx2 := (BX22.out.alloc (.cells #[.int .i64 (-1)] 3)).alloc (.cells #[.slice A S.length c] 50)
  generalize (w2.alloc (.cells #[.int .i64 (-1)] 3)).alloc (.cells #[.slice A S.length c] 50) = w4 at *
  have HZ4 := Lib.hid hz4
  have HL2 := Lib.hid (show w.heap.size + 1 + 1 < w2.heap.size from BX22.out.lt)
  have HM0 := Lib.hid (fun r => show Mid Q w w.heap.size (w.heap.size + 1) (w.heap.size + 1 + 1) w2.heap.size (w2.heap.size + 1) (w4.heap.size + 2) vb a n m s W st sn A B c d S R 0 ((w4.alloc (.deferred (some []))).alloc (.loop r)) from by
    have hb5 := (hb4.alloc hb4.size (.deferred (some []))).alloc (by simp; have := hb4.size; omega) (.loop r)
    refine ⟨?_, (bx0.alloc _).alloc _, (bx1.alloc _).alloc _, (bx2.alloc _).alloc _, ?_, (bx4.alloc _).alloc _, Vol.kq_below hb5, by simp⟩
    · have := HV.out.grow hb5
      simp only [World.size_alloc] at this
      exact this
    · rw [Nat.sub_zero, hd_none (Nat.le_refl _)]
      exact (bx3.alloc _).alloc _)
  clear hb3 hz3 hb4 hz4 bx3 bx4 bx0 bx1 bx2 BX02 BX12 BX22
  refine (wpIn_wide (n := 3)).1 ?_
  refine range_back (F := Fence.wide) rfl (by omega) (gf := 150) (lb := #[.pointer (some ⟨w2.heap.size + 1, 0, none⟩)]) rfl trivial (enters_of Tryz.func150 (by kernel_rfl) rfl)
    (encs := bw (S.map Int.ofNat)) (N := S.length) (fun _ => rfl)
    (Mid Q w w.heap.size (w.heap.size + 1) (w.heap.size + 1 + 1) w2.heap.size (w2.heap.size + 1) (w4.heap.size + 2) vb a n m s W st sn A B c d S R) (fun _ => False) ?hI (fun _ _ h _ => h) HM0.out ?hseq
    (fun k => { tmps := #[.pointer (some ⟨vb, 0, none⟩), .slice A S.length c, .slice B R.length d, .pointer (some ⟨w.heap.size, 0, none⟩), undef, .pointer (some ⟨w.heap.size + 1, 0, none⟩), .pointer (some ⟨w.heap.size + 1 + 1, 0, none⟩), .pointer (some ⟨w2.heap.size, 0, none⟩),
      .int .i64 ((S.length : Int) - 1 - (k : Int)), .int .i64 ((Option.map Int.ofNat S[S.length - 1 - k]?).getD 0), undef, undef, .pointer (some ⟨vb, 0, none⟩), .agg #[.int .i64 (n : Int), .int .i64 (m : Int), .int .i64 (s : Int)], .int .i64 (n : Int), .slice A S.length c, .slice B R.length d, .bool true, .bool false, .slice A S.length c,
      .func (.func 150) #[] #[.pointer (some ⟨w2.heap.size + 1, 0, none⟩)], .int .i64 ((S.length : Int) - 1 - (k : Int)), .int .i64 ((Option.map Int.ofNat S[S.length - 1 - k]?).getD 0), undef, undef, undef, undef, undef, undef, undef, undef, undef, undef, undef, undef, undef, undef, undef, undef, undef, undef, undef, undef], defers := [] })
    ?assign ?body ?done (fun _ h _ => h.elim)
  case hI =>
    intro k X X' hi ho
    have hlt : w.heap.size + 1 + 1 < w4.heap.size + 1 := by have := HZ4.out; have := HL2.out; omega
    have hvl := HV.out.lt
    exact ⟨vo_off hi.vo (.inr ⟨by omega, by omega⟩) (by omega) ho, box_off hi.vol (by omega) ho, box_off hi.runs (by omega) ho, box_off hi.err (by omega) ho,
      box_off hi.next (by have := HZ4.out; omega) ho, box_off hi.slots (by have := HZ4.out; omega) ho, kq_off hi.kq (by omega) ho, Nat.le_trans hi.size ho.size⟩
  case hseq =>
    intro l J Jx X hJI hY h0
    have := back1_in Fence.wide 2 trivial rfl (by omega) l (w2.heap.size + 1) A c (S.map Int.ofNat) (by simp; have := HWR.out.few; have := HWR.out.n64; omega) J Jx (fun k X hj => by
      have hi := hJI k X hj
      exact ⟨by rw [List.length_map]; exact hi.slots.cell, nts_kq HS.out hi.kq (fun x hx h0 => HQA.out x hx (fun e => h0 (by rw [e]; rfl)))⟩) (fun k X hj hk => hY k X hj (by simpa using hk)) X h0
    rw [List.length_map] at this
    exact this
  case assign =>
    intro l k X K hK
    dsimp only [bw]
    gi_wp2
    exact hK
  case done =>
    intro X hi hD
    have HI := Lib.hid hi
    have HD := Lib.hid hD
    have c2 := hi.err.cell
    have f2 := hi.err.frozen
    have hz4 := HZ4.out
    have hl2 := HL2.out
    have hvl := HV.out.lt
    clear hi hD
    go_wp2
    have ho := (Pm.Off.refl (fun q => q = w.heap.size + 1 + 1) X).setCell (p := ⟨w.heap.size + 1 + 1, 0, none⟩) (fun _ => rfl) (.int .i64 0)
    have hk1 : (X.setCell ⟨w.heap.size + 1 + 1, 0, none⟩ (.int .i64 0)).heap[w4.heap.size]? = some (.deferred (some [])) := (Below.heap_setCell _ _ _ _ (by show w4.heap.size ≠ w.heap.size + 1 + 1; omega)).trans HD.out
    have hq2 := (HI.out.err.set (.int .i64 0)).kept (grownBy_putObj' _ w4.heap.size (.deferred none)) (by simp; omega)
    have hc2 := hq2.cell
    have hv := vo_off HI.out.vo (.inr ⟨by omega, by omega⟩) (by omega) ho
    have hkk := kq_off HI.out.kq (by omega) ho
    generalize X.setCell ⟨w.heap.size + 1 + 1, 0, none⟩ (.int .i64 0) = X2 at *
    refine ⟨by simp, .inl ⟨_, _, rfl, run_takeDeferred hk1, ?_⟩⟩
    refine ⟨.int .i64 0, ?_, rfl, ?_, ?_⟩
    · simp [results, Tryz.results70, go_sem, hc2]
    · exact (vo_off hv (.inr ⟨by omega, by omega⟩) (by omega) (off_put X2 w4.heap.size (.deferred none))).sub (fun k h => .inl h) HV.out.q
    · exact kq_off hkk (by omega) (off_put X2 w4.heap.size (.deferred none))
  case body =>
    intro l k X hi hk
    obtain ⟨j, hj⟩ : ∃ j, j = S.length - 1 - k := ⟨_, rfl⟩
    have hjl : j < S.length := by omega
    have hjr : j < R.length := by rw [HWR.out.len]; exact hjl
    rw [show (S.length : Int) - 1 - (k : Int) = (j : Int) by omega, ← hj, List.getElem?_eq_getElem hjl, Option.map_some, Option.getD_some]
    obtain ⟨⟨m1, m2⟩, m3, m4⟩ := pk_may HWR.out hjl
    obtain ⟨b, o, rfl, hbb, hd0, hd1⟩ := (prs_kq HR.out hi.kq (fun x hx h0 => HQB.out x hx (fun e => h0 (by rw [e]; rfl)))).at' j (by simpa using hjr)
    have e1 : (pk S R j).x = R[j].1 := by simp [pk, hjr]
    have e2 : (pk S R j).c = R[j].2 := by simp [pk, hjr]
    simp only [List.getElem_map, ← e1, ← e2] at hd0 hd1
    have hnx : hd S (S.length - k) = Slo.nx (pk S R j).q := by unfold hd pk; simp only; rw [show j + 1 = S.length - k by omega]
    have HI := Lib.hid hi
    have c0 := hi.vol.cell
    have c1 := hi.runs.cell
    have c3 := hi.next.cell
    rw [hnx] at c3
    have l0 := hi.vol.lt
    have l1 := hi.runs.lt
    have l3 := hi.next.lt
    have HJ := Lib.hid (show j = S.length - 1 - k ∧ k < S.length from ⟨hj, hk⟩)
    clear hi hj hk e1 e2 hnx
    have hjI : (j : Int) < (R.length : Int) := by omega
    gi_wp2_with fail
    obtain ⟨x, hx⟩ : ∃ x, x = (pk S R j).x := ⟨_, rfl⟩
    obtain ⟨y, hy⟩ : ∃ y, y = (pk S R j).c := ⟨_, rfl⟩
    obtain ⟨z, hz⟩ : ∃ z, z = Slo.nx (pk S R j).q := ⟨_, rfl⟩
    have HXYZ := Lib.hid (show x = (pk S R j).x ∧ y = (pk S R j).c ∧ z = Slo.nx (pk S R j).q from ⟨hx, hy, hz⟩)
    rw [← hx] at hd0
    rw [← hy] at hd1
    rw [← hz] at c3
    rw [← hx, ← hy] at m2 m4
    rw [← hy] at m1
    rw [← hz] at m4
    clear hx hy hz
    obtain ⟨sj, hsj⟩ : ∃ sj, sj = S[j] := ⟨_, rfl⟩
    have HSJ := Lib.hid hsj
    rw [← hsj]
    clear hsj
    refine wpIn_region_any (by kernel_rfl) ?_
    change wpAnyIn _ _ _ _ _ _ _ _ _ X.drew
    refine any_inv (fun l a' X' => ∃ u10 u23 u24 u25 u26 u27 u28 u29 u30 u31 u32 u33 u34 : Value, a' = { tmps := #[.pointer (some ⟨vb, 0, none⟩), .slice A S.length c, .slice (some ⟨b, o, none⟩) R.length d, .pointer (some ⟨w.heap.size, 0, none⟩), undef, .pointer (some ⟨w.heap.size + 1, 0, none⟩), .pointer (some ⟨w.heap.size + 1 + 1, 0, none⟩), .pointer (some ⟨w2.heap.size, 0, none⟩),
        .int .i64 (j : Int), .int .i64 (sj : Int), u10, undef, .pointer (some ⟨vb, 0, none⟩), .agg #[.int .i64 (n : Int), .int .i64 (m : Int), .int .i64 (s : Int)], .int .i64 (n : Int), .slice A S.length c, .slice (some ⟨b, o, none⟩) R.length d, .bool true, .bool false, .slice A S.length c,
        .func (.func 150) #[] #[.pointer (some ⟨w2.heap.size + 1, 0, none⟩)], .int .i64 (j : Int), .int .i64 (sj : Int), u23, u24, u25, u26, u27, u28, u29, u30, u31, u32, u33, u34, undef, undef, undef, undef, undef, undef, undef, undef], defers := [] } ∧
      (l.getD 0 false = true → u23 = .slice (some ⟨b, o, none⟩) R.length d) ∧ (l.getD 1 false = true → u24 = .int .i64 (j : Int)) ∧ (l.getD 2 false = true → u25 = .pointer (some ⟨b, o + j * 2, none⟩)) ∧ (l.getD 3 false = true → u26 = .pointer (some ⟨b, o + j * 2, none⟩)) ∧ (l.getD 4 false = true → u27 = .int .i64 (x : Int)) ∧
      (l.getD 5 false = true → u28 = .slice (some ⟨b, o, none⟩) R.length d) ∧ (l.getD 6 false = true → u29 = .int .i64 (j : Int)) ∧ (l.getD 7 false = true → u30 = .pointer (some ⟨b, o + j * 2, none⟩)) ∧ (l.getD 8 false = true → u31 = .pointer (some ⟨b, o + j * 2 + 1, none⟩)) ∧ (l.getD 9 false = true → u32 = .int .i64 (y : Int)) ∧
      (l.getD 10 false = true → u33 = .int .i64 z) ∧ (l.getD 11 false = true → u34 = .agg #[.int .i64 (x : Int), .int .i64 (y : Int), .int .i64 z]) ∧ (l.getD 12 false = true → u10 = .pointer (some ⟨X.heap.size, 0, none⟩)) ∧
      (l.getD 13 false = true → ∀ i, i < 13 → l.getD i false = true) ∧
      X' = if l.getD 13 false = true then (X.alloc (.cells #[.int .i64 (x : Int), .int .i64 (y : Int), .int .i64 z] 74)).drew else if l.getD 12 false = true then (X.alloc (.cells #[.int .i64 0, .int .i64 0, .int .i64 0] 74)).drew else X.drew) ?step ?fin _ _ _ _ (by simp) (by decide) ?start
    case start => exact ⟨_, _, _, _, _, _, _, _, _, _, _, _, _, rfl, by simp, by simp, by simp, by simp, by simp, by simp, by simp, by simp, by simp, by simp, by simp, by simp, by simp, by simp, by simp⟩
    case fin =>
      rintro l a' X' hsz ⟨u10, u23, u24, u25, u26, u27, u28, u29, u30, u31, u32, u33, u34, rfl, g0, g1, g2, g3, g4, g5, g6, g7, g8, g9, g10, g11, g12, g13, hX⟩ hi
      have hsz : l.size = 14 := hsz
      have hr := List.filter_eq_nil_iff.1 hi
      simp only [List.mem_range] at hr
      have hr0 := hr 0 (by decide)
      have hr1 := hr 1 (by decide)
      have hr2 := hr 2 (by decide)
      have hr3 := hr 3 (by decide)
      have hr4 := hr 4 (by decide)
      have hr5 := hr 5 (by decide)
      have hr6 := hr 6 (by decide)
      have hr7 := hr 7 (by decide)
      have hr8 := hr 8 (by decide)
      have hr9 := hr 9 (by decide)
      have hr10 := hr 10 (by decide)
      have hr11 := hr 11 (by decide)
      have hr12 := hr 12 (by decide)
      have hr13 := hr 13 (by decide)
      clear hr hi
      simp [Region.binds, hsz] at hr0 hr1 hr2 hr3 hr4 hr5 hr6 hr7 hr8 hr9 hr10 hr11 hr12 hr13
      have f0 := hr0
      have f1 := hr1
      have f5 := hr5
      have f6 := hr6
      have f10 := hr10
      have f12 := hr12
      have f2 : l[2] = true := by
        cases e : l[2] with
        | true => rfl
        | false => have := hr2 e f0; rw [f1] at this; cases this
      have f3 : l[3] = true := by
        cases e : l[3] with
        | true => rfl
        | false => have := hr3 e; rw [f2] at this; cases this
      have f4 : l[4] = true := by
        cases e : l[4] with
        | true => rfl
        | false => have := hr4 e; rw [f3] at this; cases this
      have f7 : l[7] = true := by
        cases e : l[7] with
        | true => rfl
        | false => have := hr7 e f5; rw [f6] at this; cases this
      have f8 : l[8] = true := by
        cases e : l[8] with
        | true => rfl
        | false => have := hr8 e; rw [f7] at this; cases this
      have f9 : l[9] = true := by
        cases e : l[9] with
        | true => rfl
        | false => have := hr9 e; rw [f8] at this; cases this
      have f11 : l[11] = true := by
        cases e : l[11] with
        | true => rfl
        | false => have := hr11 e f4 f9; rw [f10] at this; cases this
      have f13 : l[13] = true := by
        cases e : l[13] with
        | true => rfl
        | false => have := hr13 e f12 f11 f0 f1 f2 f3 f4 f5 f6 f7 f8 f9 f10 f11; rw [f12] at this; cases this
      clear hr0 hr1 hr2 hr3 hr4 hr5 hr6 hr7 hr8 hr9 hr10 hr11 hr12 hr13
      obtain rfl := g0 (by simp [Array.getD, hsz, f0])
      obtain rfl := g1 (by simp [Array.getD, hsz, f1])
      obtain rfl := g2 (by simp [Array.getD, hsz, f2])
      obtain rfl := g3 (by simp [Array.getD, hsz, f3])
      obtain rfl := g4 (by simp [Array.getD, hsz, f4])
      obtain rfl := g5 (by simp [Array.getD, hsz, f5])
      obtain rfl := g6 (by simp [Array.getD, hsz, f6])
      obtain rfl := g7 (by simp [Array.getD, hsz, f7])
      obtain rfl := g8 (by simp [Array.getD, hsz, f8])
      obtain rfl := g9 (by simp [Array.getD, hsz, f9])
      obtain rfl := g10 (by simp [Array.getD, hsz, f10])
      obtain rfl := g11 (by simp [Array.getD, hsz, f11])
      obtain rfl := g12 (by simp [Array.getD, hsz, f12])
      rw [if_pos (by simp [Array.getD, hsz, f13])] at hX
      subst hX
      clear g0 g1 g2 g3 g4 g5 g6 g7 g8 g9 g10 g11 g12 g13 f0 f1 f2 f3 f4 f5 f6 f7 f8 f9 f10 f11 f12 f13 hsz
      have hbX := ((Below.refl X.heap.size X).alloc (Nat.le_refl _) (.cells #[.int .i64 (x : Int), .int .i64 (y : Int), .int .i64 z] 74)).trans (bel_drew (N := X.heap.size) (X.alloc (.cells #[.int .i64 (x : Int), .int .i64 (y : Int), .int .i64 z] 74)))
      have hsn : sj < n := by rw [HSJ.out]; exact HWR.out.slot _ (List.getElem_mem hjl)
      have HSET := Lib.hid (Vol.setSlot_yes (HI.out.vo.keep hbX) sj x y (pk S R j).q z hsn HXYZ.out.2.2 (by rw [← HXYZ.out.2.2]; exact m4) (by have := HJ.out; omega))
      have HBX := Lib.hid hbX
      clear hbX
      gi_wp2_with fail
      generalize (X.alloc (.cells #[.int .i64 (x : Int), .int .i64 (y : Int), .int .i64 z] 74)).drew = X1 at *
      refine ⟨trivial, ?_⟩
      refine (CallsIn.inRound _ (callsIn_wide.2 HSET.out)).mono ?_
      rintro e w6 ⟨rfl, hv6, hk6⟩
      have hsz5 := HI.out.size
      have hz4 := HZ4.out
      have hl2 := HL2.out
      have hat : ∀ q, w.heap.size ≤ q → q < w4.heap.size + 2 → w6.heap[q]? = X.heap[q]? := fun q h1 h2 => (hk6.at (.inr ⟨h1, h2⟩) (Nat.lt_of_lt_of_le (by omega) HBX.out.size)).trans (HBX.out.block q (by omega))
      have hb0 : Boxed w6 w.heap.size 26 (.pointer (some ⟨vb, 0, none⟩)) := (hat _ (by omega) (by omega)).trans HI.out.vol
      have hb1 : Boxed w6 (w.heap.size + 1) 173 (.slice (some ⟨b, o, none⟩) R.length d) := (hat _ (by omega) (by omega)).trans HI.out.runs
      have hb2 : Boxed w6 (w.heap.size + 1 + 1) 34 (.int .i64 0) := (hat _ (by omega) (by omega)).trans HI.out.err
      have hb3 : Boxed w6 w2.heap.size 3 (.int .i64 (hd S (S.length - k))) := (hat _ (by omega) (by omega)).trans HI.out.next
      have hb4 : Boxed w6 (w2.heap.size + 1) 50 (.slice A S.length c) := (hat _ (by omega) (by omega)).trans HI.out.slots
      have hkk : Kq Q w w6 := (HI.out.kq.trans (Vol.kq_below HBX.out)).trans (hk6.sub (fun k h => .inl h))
      have hss : w4.heap.size + 2 ≤ w6.heap.size := Nat.le_trans hsz5 (Nat.le_trans HBX.out.size hk6.size)
      have HAT := Lib.hid hat
      have HV6 := Lib.hid hv6
      have HB0' := Lib.hid hb0
      have HB1' := Lib.hid hb1
      have HB2' := Lib.hid hb2
      have HB3' := Lib.hid hb3
      have HB4' := Lib.hid hb4
      have HKK := Lib.hid hkk
      have HSS := Lib.hid hss
      have cc3 := hb3.cell
      have ff3 := hb3.frozen
      clear c0 c1 c3 hd0 hd1 l0 l1 l3 hsz5 hz4 hl2 hat hv6 hk6 hb0 hb1 hb2 hb3 hb4 hkk hss HSET
      gi_wp2
      have ho := (Pm.Off.refl (fun q => q = w2.heap.size) w6).setCell (p := ⟨w2.heap.size, 0, none⟩) (fun _ => rfl) (.int .i64 (sj : Int))
      have hz4 := HZ4.out
      have hl2 := HL2.out
      have hvl := HV.out.lt
      have hkj := HJ.out
      refine ⟨⟨?_, ?_⟩, ⟨?_, box_off HB0'.out (by omega) ho, box_off HB1'.out (by omega) ho, box_off HB2'.out (by omega) ho, ?_, box_off HB4'.out (by omega) ho, kq_off HKK.out (by omega) ho, Nat.le_trans HSS.out ho.size⟩⟩
      · exact (Below.heap_setCell _ _ _ _ (by show w4.heap.size ≠ w2.heap.size; omega)).trans (HAT.out _ (by omega) (by omega))
      · exact (Below.heap_setCell _ _ _ _ (by show w4.heap.size + 1 ≠ w2.heap.size; omega)).trans (HAT.out _ (by omega) (by omega))
      · have hv := HV6.out
        rw [show st + 2 * (k + 1) = st + 2 * k + 2 by omega, show sn + (k + 1) = sn + k + 1 by omega]
        unfold wk
        rw [← hkj.1, pk_s hjl, ← HSJ.out]
        unfold pw
        rw [← HXYZ.out.1, ← HXYZ.out.2.1]
        exact vo_off hv (.inr ⟨by omega, by omega⟩) (by omega) ho
      · rw [show S.length - (k + 1) = j by omega, hd_some HWR.out hjl, ← HSJ.out]
        exact HB3'.out.set _
    case step =>
      rintro l a' X' i hsz ⟨u10, u23, u24, u25, u26, u27, u28, u29, u30, u31, u32, u33, u34, rfl, g0, g1, g2, g3, g4, g5, g6, g7, g8, g9, g10, g11, g12, g13, hX⟩ hi
      have hsz : l.size = 14 := hsz
      obtain ⟨hi1, hi2⟩ := List.mem_filter.1 hi
      have hi1 : i < 14 := by simpa using hi1
      have hli : l.getD i false = false := by
        simp only [Bool.and_eq_true, Bool.not_eq_true'] at hi2
        have := hi2.1
        simp only [Array.getD, show i < l.size by omega, dite_true] at this ⊢
        exact this
      by_cases h13 : i = 13
      · subst h13
        have hl : ∀ k, k < 13 → l.getD k false = true := by
          intro k hk
          simp [Region.binds, -Array.getD_eq_getD_getElem?] at hi2
          have : k = 0 ∨ k = 1 ∨ k = 2 ∨ k = 3 ∨ k = 4 ∨ k = 5 ∨ k = 6 ∨ k = 7 ∨ k = 8 ∨ k = 9 ∨ k = 10 ∨ k = 11 ∨ k = 12 := by omega
          rcases this with rfl | rfl | rfl | rfl | rfl | rfl | rfl | rfl | rfl | rfl | rfl | rfl | rfl <;> simp_all
        obtain rfl := g12 (hl 12 (by decide))
        obtain rfl := g11 (hl 11 (by decide))
        rw [if_neg (by rw [hli]; decide), if_pos (hl 12 (by decide))] at hX
        subst hX
        refine wpOpIn_step rfl (fun K' hK => ?_)
        go_simp
        have hil : 13 < l.size := by omega
        refine hK _ _ ⟨_, _, _, _, _, _, _, _, _, _, _, _, _, rfl, fun _ => rfl, fun _ => rfl, fun _ => rfl, fun _ => rfl, fun _ => rfl, fun _ => rfl, fun _ => rfl, fun _ => rfl, fun _ => rfl, fun _ => rfl, fun _ => rfl, fun _ => rfl, fun _ => rfl, fun _ i hi => ?_, ?_⟩
        · rw [get_set hil, if_neg (show ¬ 13 = i by omega)]
          exact hl i hi
        · rw [get_set hil 13, if_pos rfl, if_pos rfl]
      · have hi13 : i < 13 := by omega
        have hn13 : ¬ l.getD 13 false = true := fun h => by
          have := g13 h i hi13
          rw [hli] at this
          cases this
        rw [if_neg hn13] at hX
        have hXX : (X'.cell? ⟨w.heap.size + 1, 0, none⟩ = some (.slice (some ⟨b, o, none⟩) R.length d) ∧ X'.cell? ⟨w2.heap.size, 0, none⟩ = some (.int .i64 z)) ∧ (X'.cell? ⟨b, o + j * 2, none⟩ = some (.int .i64 (x : Int)) ∧ X'.cell? ⟨b, o + j * 2 + 1, none⟩ = some (.int .i64 (y : Int))) ∧ b < X'.heap.size := by
          have hbb2 := ((Below.refl X.heap.size X).alloc (Nat.le_refl _) (.cells #[.int .i64 0, .int .i64 0, .int .i64 0] 74)).trans (bel_drew _)
          rw [hX]
          split
          · exact ⟨⟨(hbb2.cell (p := ⟨w.heap.size + 1, 0, none⟩) l1).trans c1, (hbb2.cell (p := ⟨w2.heap.size, 0, none⟩) l3).trans c3⟩, ⟨(hbb2.cell (p := ⟨b, o + j * 2, none⟩) hbb).trans hd0, (hbb2.cell (p := ⟨b, o + j * 2 + 1, none⟩) hbb).trans hd1⟩, Nat.lt_of_lt_of_le hbb hbb2.size⟩
          · exact ⟨⟨c1, c3⟩, ⟨hd0, hd1⟩, hbb⟩
        obtain ⟨⟨k1, k3⟩, ⟨kd0, kd1⟩, kb⟩ := hXX
        have hil : i < l.size := by omega
        have hcs : i = 0 ∨ i = 1 ∨ i = 2 ∨ i = 3 ∨ i = 4 ∨ i = 5 ∨ i = 6 ∨ i = 7 ∨ i = 8 ∨ i = 9 ∨ i = 10 ∨ i = 11 ∨ i = 12 := by omega
        have HX := Lib.hid hX
        clear hX
        rcases hcs with rfl | rfl | rfl | rfl | rfl | rfl | rfl | rfl | rfl | rfl | rfl | rfl | rfl
        · simp [Region.binds, -Array.getD_eq_getD_getElem?] at hi2
          refine wpOpIn_step rfl (fun K' hK => ?_)
          go_simp
          refine hK _ _ ⟨_, _, _, _, _, _, _, _, _, _, _, _, _, rfl, ?_, ?_, ?_, ?_, ?_, ?_, ?_, ?_, ?_, ?_, ?_, ?_, ?_, ?_, ?_⟩
          · exact fun _ => rfl
          · rw [get_set hil, if_neg (by decide)]; assumption
          · rw [get_set hil, if_neg (by decide)]; assumption
          · rw [get_set hil, if_neg (by decide)]; assumption
          · rw [get_set hil, if_neg (by decide)]; assumption
          · rw [get_set hil, if_neg (by decide)]; assumption
          · rw [get_set hil, if_neg (by decide)]; assumption
          · rw [get_set hil, if_neg (by decide)]; assumption
          · rw [get_set hil, if_neg (by decide)]; assumption
          · rw [get_set hil, if_neg (by decide)]; assumption
          · rw [get_set hil, if_neg (by decide)]; assumption
          · rw [get_set hil, if_neg (by decide)]; assumption
          · rw [get_set hil, if_neg (by decide)]; assumption
          · rw [get_set hil, if_neg (by decide)]; exact fun h => absurd h hn13
          · have e13 := get_set hil 13
            have e12 := get_set hil 12
            rw [if_neg (show ¬ ((0 : Nat) = 13) by decide)] at e13
            rw [if_neg (show ¬ ((0 : Nat) = 12) by decide)] at e12
            rw [e13, e12, if_neg hn13]; exact HX.out
        · simp [Region.binds, -Array.getD_eq_getD_getElem?] at hi2
          refine wpOpIn_step rfl (fun K' hK => ?_)
          go_simp
          refine hK _ _ ⟨_, _, _, _, _, _, _, _, _, _, _, _, _, rfl, ?_, ?_, ?_, ?_, ?_, ?_, ?_, ?_, ?_, ?_, ?_, ?_, ?_, ?_, ?_⟩
          · rw [get_set hil, if_neg (by decide)]; assumption
          · exact fun _ => rfl
          · rw [get_set hil, if_neg (by decide)]; assumption
          · rw [get_set hil, if_neg (by decide)]; assumption
          · rw [get_set hil, if_neg (by decide)]; assumption
          · rw [get_set hil, if_neg (by decide)]; assumption
          · rw [get_set hil, if_neg (by decide)]; assumption
          · rw [get_set hil, if_neg (by decide)]; assumption
          · rw [get_set hil, if_neg (by decide)]; assumption
          · rw [get_set hil, if_neg (by decide)]; assumption
          · rw [get_set hil, if_neg (by decide)]; assumption
          · rw [get_set hil, if_neg (by decide)]; assumption
          · rw [get_set hil, if_neg (by decide)]; assumption
          · rw [get_set hil, if_neg (by decide)]; exact fun h => absurd h hn13
          · have e13 := get_set hil 13
            have e12 := get_set hil 12
            rw [if_neg (show ¬ ((1 : Nat) = 13) by decide)] at e13
            rw [if_neg (show ¬ ((1 : Nat) = 12) by decide)] at e12
            rw [e13, e12, if_neg hn13]; exact HX.out
        · simp [Region.binds, -Array.getD_eq_getD_getElem?] at hi2
          obtain rfl := g0 (by simp_all)
          obtain rfl := g1 (by simp_all)
          refine wpOpIn_step rfl (fun K' hK => ?_)
          go_simp
          refine hK _ _ ⟨_, _, _, _, _, _, _, _, _, _, _, _, _, rfl, ?_, ?_, ?_, ?_, ?_, ?_, ?_, ?_, ?_, ?_, ?_, ?_, ?_, ?_, ?_⟩
          · rw [get_set hil, if_neg (by decide)]; assumption
          · rw [get_set hil, if_neg (by decide)]; assumption
          · exact fun _ => rfl
          · rw [get_set hil, if_neg (by decide)]; assumption
          · rw [get_set hil, if_neg (by decide)]; assumption
          · rw [get_set hil, if_neg (by decide)]; assumption
          · rw [get_set hil, if_neg (by decide)]; assumption
          · rw [get_set hil, if_neg (by decide)]; assumption
          · rw [get_set hil, if_neg (by decide)]; assumption
          · rw [get_set hil, if_neg (by decide)]; assumption
          · rw [get_set hil, if_neg (by decide)]; assumption
          · rw [get_set hil, if_neg (by decide)]; assumption
          · rw [get_set hil, if_neg (by decide)]; assumption
          · rw [get_set hil, if_neg (by decide)]; exact fun h => absurd h hn13
          · have e13 := get_set hil 13
            have e12 := get_set hil 12
            rw [if_neg (show ¬ ((2 : Nat) = 13) by decide)] at e13
            rw [if_neg (show ¬ ((2 : Nat) = 12) by decide)] at e12
            rw [e13, e12, if_neg hn13]; exact HX.out
        · simp [Region.binds, -Array.getD_eq_getD_getElem?] at hi2
          obtain rfl := g2 (by simp_all)
          refine wpOpIn_step rfl (fun K' hK => ?_)
          go_simp
          refine hK _ _ ⟨_, _, _, _, _, _, _, _, _, _, _, _, _, rfl, ?_, ?_, ?_, ?_, ?_, ?_, ?_, ?_, ?_, ?_, ?_, ?_, ?_, ?_, ?_⟩
          · rw [get_set hil, if_neg (by decide)]; assumption
          · rw [get_set hil, if_neg (by decide)]; assumption
          · rw [get_set hil, if_neg (by decide)]; assumption
          · exact fun _ => rfl
          · rw [get_set hil, if_neg (by decide)]; assumption
          · rw [get_set hil, if_neg (by decide)]; assumption
          · rw [get_set hil, if_neg (by decide)]; assumption
          · rw [get_set hil, if_neg (by decide)]; assumption
          · rw [get_set hil, if_neg (by decide)]; assumption
          · rw [get_set hil, if_neg (by decide)]; assumption
          · rw [get_set hil, if_neg (by decide)]; assumption
          · rw [get_set hil, if_neg (by decide)]; assumption
          · rw [get_set hil, if_neg (by decide)]; assumption
          · rw [get_set hil, if_neg (by decide)]; exact fun h => absurd h hn13
          · have e13 := get_set hil 13
            have e12 := get_set hil 12
            rw [if_neg (show ¬ ((3 : Nat) = 13) by decide)] at e13
            rw [if_neg (show ¬ ((3 : Nat) = 12) by decide)] at e12
            rw [e13, e12, if_neg hn13]; exact HX.out
        · simp [Region.binds, -Array.getD_eq_getD_getElem?] at hi2
          obtain rfl := g3 (by simp_all)
          refine wpOpIn_step rfl (fun K' hK => ?_)
          go_simp
          refine hK _ _ ⟨_, _, _, _, _, _, _, _, _, _, _, _, _, rfl, ?_, ?_, ?_, ?_, ?_, ?_, ?_, ?_, ?_, ?_, ?_, ?_, ?_, ?_, ?_⟩
          · rw [get_set hil, if_neg (by decide)]; assumption
          · rw [get_set hil, if_neg (by decide)]; assumption
          · rw [get_set hil, if_neg (by decide)]; assumption
          · rw [get_set hil, if_neg (by decide)]; assumption
          · exact fun _ => rfl
          · rw [get_set hil, if_neg (by decide)]; assumption
          · rw [get_set hil, if_neg (by decide)]; assumption
          · rw [get_set hil, if_neg (by decide)]; assumption
          · rw [get_set hil, if_neg (by decide)]; assumption
          · rw [get_set hil, if_neg (by decide)]; assumption
          · rw [get_set hil, if_neg (by decide)]; assumption
          · rw [get_set hil, if_neg (by decide)]; assumption
          · rw [get_set hil, if_neg (by decide)]; assumption
          · rw [get_set hil, if_neg (by decide)]; exact fun h => absurd h hn13
          · have e13 := get_set hil 13
            have e12 := get_set hil 12
            rw [if_neg (show ¬ ((4 : Nat) = 13) by decide)] at e13
            rw [if_neg (show ¬ ((4 : Nat) = 12) by decide)] at e12
            rw [e13, e12, if_neg hn13]; exact HX.out
        · simp [Region.binds, -Array.getD_eq_getD_getElem?] at hi2
          refine wpOpIn_step rfl (fun K' hK => ?_)
          go_simp
          refine hK _ _ ⟨_, _, _, _, _, _, _, _, _, _, _, _, _, rfl, ?_, ?_, ?_, ?_, ?_, ?_, ?_, ?_, ?_, ?_, ?_, ?_, ?_, ?_, ?_⟩
          · rw [get_set hil, if_neg (by decide)]; assumption
          · rw [get_set hil, if_neg (by decide)]; assumption
          · rw [get_set hil, if_neg (by decide)]; assumption
          · rw [get_set hil, if_neg (by decide)]; assumption
          · rw [get_set hil, if_neg (by decide)]; assumption
          · exact fun _ => rfl
          · rw [get_set hil, if_neg (by decide)]; assumption
          · rw [get_set hil, if_neg (by decide)]; assumption
          · rw [get_set hil, if_neg (by decide)]; assumption
          · rw [get_set hil, if_neg (by decide)]; assumption
          · rw [get_set hil, if_neg (by decide)]; assumption
          · rw [get_set hil, if_neg (by decide)]; assumption
          · rw [get_set hil, if_neg (by decide)]; assumption
          · rw [get_set hil, if_neg (by decide)]; exact fun h => absurd h hn13
          · have e13 := get_set hil 13
            have e12 := get_set hil 12
            rw [if_neg (show ¬ ((5 : Nat) = 13) by decide)] at e13
            rw [if_neg (show ¬ ((5 : Nat) = 12) by decide)] at e12
            rw [e13, e12, if_neg hn13]; exact HX.out
        · simp [Region.binds, -Array.getD_eq_getD_getElem?] at hi2
          refine wpOpIn_step rfl (fun K' hK => ?_)
          go_simp
          refine hK _ _ ⟨_, _, _, _, _, _, _, _, _, _, _, _, _, rfl, ?_, ?_, ?_, ?_, ?_, ?_, ?_, ?_, ?_, ?_, ?_, ?_, ?_, ?_, ?_⟩
          · rw [get_set hil, if_neg (by decide)]; assumption
          · rw [get_set hil, if_neg (by decide)]; assumption
          · rw [get_set hil, if_neg (by decide)]; assumption
          · rw [get_set hil, if_neg (by decide)]; assumption
          · rw [get_set hil, if_neg (by decide)]; assumption
          · rw [get_set hil, if_neg (by decide)]; assumption
          · exact fun _ => rfl
          · rw [get_set hil, if_neg (by decide)]; assumption
          · rw [get_set hil, if_neg (by decide)]; assumption
          · rw [get_set hil, if_neg (by decide)]; assumption
          · rw [get_set hil, if_neg (by decide)]; assumption
          · rw [get_set hil, if_neg (by decide)]; assumption
          · rw [get_set hil, if_neg (by decide)]; assumption
          · rw [get_set hil, if_neg (by decide)]; exact fun h => absurd h hn13
          · have e13 := get_set hil 13
            have e12 := get_set hil 12
            rw [if_neg (show ¬ ((6 : Nat) = 13) by decide)] at e13
            rw [if_neg (show ¬ ((6 : Nat) = 12) by decide)] at e12
            rw [e13, e12, if_neg hn13]; exact HX.out
        · simp [Region.binds, -Array.getD_eq_getD_getElem?] at hi2
          obtain rfl := g5 (by simp_all)
          obtain rfl := g6 (by simp_all)
          refine wpOpIn_step rfl (fun K' hK => ?_)
          go_simp
          refine hK _ _ ⟨_, _, _, _, _, _, _, _, _, _, _, _, _, rfl, ?_, ?_, ?_, ?_, ?_, ?_, ?_, ?_, ?_, ?_, ?_, ?_, ?_, ?_, ?_⟩
          · rw [get_set hil, if_neg (by decide)]; assumption
          · rw [get_set hil, if_neg (by decide)]; assumption
          · rw [get_set hil, if_neg (by decide)]; assumption
          · rw [get_set hil, if_neg (by decide)]; assumption
          · rw [get_set hil, if_neg (by decide)]; assumption
          · rw [get_set hil, if_neg (by decide)]; assumption
          · rw [get_set hil, if_neg (by decide)]; assumption
          · exact fun _ => rfl
          · rw [get_set hil, if_neg (by decide)]; assumption
          · rw [get_set hil, if_neg (by decide)]; assumption
          · rw [get_set hil, if_neg (by decide)]; assumption
          · rw [get_set hil, if_neg (by decide)]; assumption
          · rw [get_set hil, if_neg (by decide)]; assumption
          · rw [get_set hil, if_neg (by decide)]; exact fun h => absurd h hn13
          · have e13 := get_set hil 13
            have e12 := get_set hil 12
            rw [if_neg (show ¬ ((7 : Nat) = 13) by decide)] at e13
            rw [if_neg (show ¬ ((7 : Nat) = 12) by decide)] at e12
            rw [e13, e12, if_neg hn13]; exact HX.out
        · simp [Region.binds, -Array.getD_eq_getD_getElem?] at hi2
          obtain rfl := g7 (by simp_all)
          refine wpOpIn_step rfl (fun K' hK => ?_)
          go_simp
          refine hK _ _ ⟨_, _, _, _, _, _, _, _, _, _, _, _, _, rfl, ?_, ?_, ?_, ?_, ?_, ?_, ?_, ?_, ?_, ?_, ?_, ?_, ?_, ?_, ?_⟩
          · rw [get_set hil, if_neg (by decide)]; assumption
          · rw [get_set hil, if_neg (by decide)]; assumption
          · rw [get_set hil, if_neg (by decide)]; assumption
          · rw [get_set hil, if_neg (by decide)]; assumption
          · rw [get_set hil, if_neg (by decide)]; assumption
          · rw [get_set hil, if_neg (by decide)]; assumption
          · rw [get_set hil, if_neg (by decide)]; assumption
          · rw [get_set hil, if_neg (by decide)]; assumption
          · exact fun _ => rfl
          · rw [get_set hil, if_neg (by decide)]; assumption
          · rw [get_set hil, if_neg (by decide)]; assumption
          · rw [get_set hil, if_neg (by decide)]; assumption
          · rw [get_set hil, if_neg (by decide)]; assumption
          · rw [get_set hil, if_neg (by decide)]; exact fun h => absurd h hn13
          · have e13 := get_set hil 13
            have e12 := get_set hil 12
            rw [if_neg (show ¬ ((8 : Nat) = 13) by decide)] at e13
            rw [if_neg (show ¬ ((8 : Nat) = 12) by decide)] at e12
            rw [e13, e12, if_neg hn13]; exact HX.out
        · simp [Region.binds, -Array.getD_eq_getD_getElem?] at hi2
          obtain rfl := g8 (by simp_all)
          refine wpOpIn_step rfl (fun K' hK => ?_)
          go_simp
          refine hK _ _ ⟨_, _, _, _, _, _, _, _, _, _, _, _, _, rfl, ?_, ?_, ?_, ?_, ?_, ?_, ?_, ?_, ?_, ?_, ?_, ?_, ?_, ?_, ?_⟩
          · rw [get_set hil, if_neg (by decide)]; assumption
          · rw [get_set hil, if_neg (by decide)]; assumption
          · rw [get_set hil, if_neg (by decide)]; assumption
          · rw [get_set hil, if_neg (by decide)]; assumption
          · rw [get_set hil, if_neg (by decide)]; assumption
          · rw [get_set hil, if_neg (by decide)]; assumption
          · rw [get_set hil, if_neg (by decide)]; assumption
          · rw [get_set hil, if_neg (by decide)]; assumption
          · rw [get_set hil, if_neg (by decide)]; assumption
          · exact fun _ => rfl
          · rw [get_set hil, if_neg (by decide)]; assumption
          · rw [get_set hil, if_neg (by decide)]; assumption
          · rw [get_set hil, if_neg (by decide)]; assumption
          · rw [get_set hil, if_neg (by decide)]; exact fun h => absurd h hn13
          · have e13 := get_set hil 13
            have e12 := get_set hil 12
            rw [if_neg (show ¬ ((9 : Nat) = 13) by decide)] at e13
            rw [if_neg (show ¬ ((9 : Nat) = 12) by decide)] at e12
            rw [e13, e12, if_neg hn13]; exact HX.out
        · simp [Region.binds, -Array.getD_eq_getD_getElem?] at hi2
          refine wpOpIn_step rfl (fun K' hK => ?_)
          go_simp
          refine hK _ _ ⟨_, _, _, _, _, _, _, _, _, _, _, _, _, rfl, ?_, ?_, ?_, ?_, ?_, ?_, ?_, ?_, ?_, ?_, ?_, ?_, ?_, ?_, ?_⟩
          · rw [get_set hil, if_neg (by decide)]; assumption
          · rw [get_set hil, if_neg (by decide)]; assumption
          · rw [get_set hil, if_neg (by decide)]; assumption
          · rw [get_set hil, if_neg (by decide)]; assumption
          · rw [get_set hil, if_neg (by decide)]; assumption
          · rw [get_set hil, if_neg (by decide)]; assumption
          · rw [get_set hil, if_neg (by decide)]; assumption
          · rw [get_set hil, if_neg (by decide)]; assumption
          · rw [get_set hil, if_neg (by decide)]; assumption
          · rw [get_set hil, if_neg (by decide)]; assumption
          · exact fun _ => rfl
          · rw [get_set hil, if_neg (by decide)]; assumption
          · rw [get_set hil, if_neg (by decide)]; assumption
          · rw [get_set hil, if_neg (by decide)]; exact fun h => absurd h hn13
          · have e13 := get_set hil 13
            have e12 := get_set hil 12
            rw [if_neg (show ¬ ((10 : Nat) = 13) by decide)] at e13
            rw [if_neg (show ¬ ((10 : Nat) = 12) by decide)] at e12
            rw [e13, e12, if_neg hn13]; exact HX.out
        · simp [Region.binds, -Array.getD_eq_getD_getElem?] at hi2
          obtain rfl := g4 (by simp_all)
          obtain rfl := g9 (by simp_all)
          obtain rfl := g10 (by simp_all)
          refine wpOpIn_step rfl (fun K' hK => ?_)
          go_simp
          refine hK _ _ ⟨_, _, _, _, _, _, _, _, _, _, _, _, _, rfl, ?_, ?_, ?_, ?_, ?_, ?_, ?_, ?_, ?_, ?_, ?_, ?_, ?_, ?_, ?_⟩
          · rw [get_set hil, if_neg (by decide)]; assumption
          · rw [get_set hil, if_neg (by decide)]; assumption
          · rw [get_set hil, if_neg (by decide)]; assumption
          · rw [get_set hil, if_neg (by decide)]; assumption
          · rw [get_set hil, if_neg (by decide)]; assumption
          · rw [get_set hil, if_neg (by decide)]; assumption
          · rw [get_set hil, if_neg (by decide)]; assumption
          · rw [get_set hil, if_neg (by decide)]; assumption
          · rw [get_set hil, if_neg (by decide)]; assumption
          · rw [get_set hil, if_neg (by decide)]; assumption
          · rw [get_set hil, if_neg (by decide)]; assumption
          · exact fun _ => rfl
          · rw [get_set hil, if_neg (by decide)]; assumption
          · rw [get_set hil, if_neg (by decide)]; exact fun h => absurd h hn13
          · have e13 := get_set hil 13
            have e12 := get_set hil 12
            rw [if_neg (show ¬ ((11 : Nat) = 13) by decide)] at e13
            rw [if_neg (show ¬ ((11 : Nat) = 12) by decide)] at e12
            rw [e13, e12, if_neg hn13]; exact HX.out
        · simp [Region.binds, -Array.getD_eq_getD_getElem?] at hi2
          have hX := HX.out
          rw [if_neg (by rw [hli]; decide)] at hX
          subst hX
          refine wpOpIn_step rfl (fun K' hK => ?_)
          go_simp
          refine hK _ _ ⟨_, _, _, _, _, _, _, _, _, _, _, _, _, rfl, ?_, ?_, ?_, ?_, ?_, ?_, ?_, ?_, ?_, ?_, ?_, ?_, ?_, ?_, ?_⟩
          · rw [get_set hil, if_neg (by decide)]; assumption
          · rw [get_set hil, if_neg (by decide)]; assumption
          · rw [get_set hil, if_neg (by decide)]; assumption
          · rw [get_set hil, if_neg (by decide)]; assumption
          · rw [get_set hil, if_neg (by decide)]; assumption
          · rw [get_set hil, if_neg (by decide)]; assumption
          · rw [get_set hil, if_neg (by decide)]; assumption
          · rw [get_set hil, if_neg (by decide)]; assumption
          · rw [get_set hil, if_neg (by decide)]; assumption
          · rw [get_set hil, if_neg (by decide)]; assumption
          · rw [get_set hil, if_neg (by decide)]; assumption
          · rw [get_set hil, if_neg (by decide)]; assumption
          · exact fun _ => rfl
          · rw [get_set hil, if_neg (by decide)]; exact fun h => absurd h hn13
          · have e13 := get_set hil 13
            have e12 := get_set hil 12
            rw [if_neg (show ¬ ((12 : Nat) = 13) by decide)] at e13
            rw [if_pos rfl] at e12
            rw [e13, e12, if_neg hn13, if_pos rfl]
end
end Chn
end Go.Proofs.YtilolepbfmcbgaaGreatDoor
/- Law 16's open; cantleref16.Same of what is the same; law 16's Lives. -/
namespace Go.Proofs.YtilolepbfmcbgaaGreatDoor
open Go.RowKit Go.MapKept
namespace Chn
open Vol (Vo Up Kq Hb hb_new hb_grown hb_apart Ov Pl gn gs dv rawW rdev_any open_any rawW_len rawW_read Vo.put wds_block)

section
variable {sl bm bk E : Nat} {ws : List Nat}
set_option maxHeartbeats 4000000 in
set_option maxRecDepth 100000 in
theorem copen_any (w : World) (x y k : Nat) (hx : x < 256) (hy : y < 256) (hk : k < 256) (A : Option Addr) (c : Nat) (hws : Pack.Wds w A ws) (h : Pl (gn x) (gn y) (gs k) sl bm bk E) :
    Calls Tryz.prog 67 #[.agg #[.int .u8 (x : Int), .int .u8 (y : Int), .int .u8 (k : Int), .slice A ws.length c]] w fun r w' =>
      ∃ (Q : Nat → Prop) (vb a g gc : Nat), r = .returned (.tuple #[.pointer (some ⟨vb, 0, none⟩), .agg (dv (gn x) (gn y) (gs k) sl bm bk E (.slice (some ⟨g, 0, none⟩) E gc))]) ∧ Ov w w' Q vb a g gc (gn x) (gn y) (gs k) E (rawW (gn x) (gn y) (gs k) E ws) := by
  have HD := Lib.hid (fun w' (hb : Below w.heap.size w w') => rdev_any w' x y k hx hy hk A c (hws.keep hb) h)
  have HP := Lib.hid h
  obtain ⟨n, hn⟩ : ∃ n, n = gn x := ⟨_, rfl⟩
  obtain ⟨m, hm⟩ : ∃ m, m = gn y := ⟨_, rfl⟩
  obtain ⟨s, hs⟩ : ∃ s, s = gs k := ⟨_, rfl⟩
  rw [← hn, ← hm, ← hs] at HP HD ⊢
  clear hn hm hs h hws
  go_enter Tryz.func67, Tryz.ntmps67
  go_wp2_with fail
  have hb0 := (Below.refl w.heap.size w).alloc (Nat.le_refl _) (.cells #[.int .u8 (x : Int), .int .u8 (y : Int), .int .u8 (k : Int), .slice A ws.length c] 24)
  have hz0 := World.size_alloc w (.cells #[.int .u8 (x : Int), .int .u8 (y : Int), .int .u8 (k : Int), .slice A ws.length c] 24)
  generalize w.alloc (.cells #[.int .u8 (x : Int), .int .u8 (y : Int), .int .u8 (k : Int), .slice A ws.length c] 24) = w0 at *
  have hb1 := hb0.alloc hb0.size (.cells #[.int .i64 0, .int .i64 0, .int .i64 0, .int .i64 0, .int .i64 0, .int .i64 0, .int .i64 0, .int .i64 0, .slice none 0 0] 30)
  have hv1 := hb_new w0 #[.int .i64 0, .int .i64 0, .int .i64 0, .int .i64 0, .int .i64 0, .int .i64 0, .int .i64 0, .int .i64 0, .slice none 0 0] 30
  rw [hz0] at hv1
  have HB1 := Lib.hid hb1
  have HV1 := Lib.hid hv1
  clear hb0 hz0 hb1 hv1
  generalize w0.alloc (.cells #[.int .i64 0, .int .i64 0, .int .i64 0, .int .i64 0, .int .i64 0, .int .i64 0, .int .i64 0, .int .i64 0, .slice none 0 0] 30) = w1 at *
  clear w0
  refine (HD.out _ HB1.out).mono ?_
  rintro r w2 ⟨a, g, gc, B, rfl, h1, h2, h3, h4, hup, hwd, hb⟩
  have HN := Lib.hid (show w.heap.size + 1 < B ∧ (w.heap.size + 1 < g ∧ g < B) ∧ B ≤ w2.heap.size ∧ E ≤ gc from ⟨by have := HV1.out.lt; omega, ⟨by have := HV1.out.lt; omega, h2.2⟩, h3, h4⟩)
  have HU2 := Lib.hid hup
  have HD2 := Lib.hid hwd
  have HV2 := Lib.hid (HV1.out.keep hb)
  have HB2 := Lib.hid (HB1.out.trans (hb.mono HB1.out.size))
  clear h1 h2 h3 h4 hup hwd hb HV1 HB1 HD
  unfold dv
  have hb3 := (Below.refl w2.heap.size w2).alloc (Nat.le_refl _) (.cells #[.int .i64 (n : Int), .int .i64 (m : Int), .int .i64 (s : Int), .int .i64 16, .int .i64 (sl : Int), .int .i64 (bm : Int), .int .i64 (bk : Int), .int .i64 (E : Int), .slice (some ⟨g, 0, none⟩) E gc] 30)
  have HX3 := Lib.hid (hb_new w2 #[.int .i64 (n : Int), .int .i64 (m : Int), .int .i64 (s : Int), .int .i64 16, .int .i64 (sl : Int), .int .i64 (bm : Int), .int .i64 (bk : Int), .int .i64 (E : Int), .slice (some ⟨g, 0, none⟩) E gc] 30)
  have HU3 := Lib.hid (HU2.out.keep hb3)
  have HD3 := Lib.hid (HD2.out.keep hb3)
  have HV3 := Lib.hid (HV2.out.keep hb3)
  have HB3 := Lib.hid (HB2.out.trans (hb3.mono HB2.out.size))
  have hz3 := World.size_alloc w2 (.cells #[.int .i64 (n : Int), .int .i64 (m : Int), .int .i64 (s : Int), .int .i64 16, .int .i64 (sl : Int), .int .i64 (bm : Int), .int .i64 (bk : Int), .int .i64 (E : Int), .slice (some ⟨g, 0, none⟩) E gc] 30)
  have HS3 := Lib.hid hz3
  have HOP := Lib.hid (open_any HU3.out HP.out.may (by rw [rawW_len HP.out]; exact HP.out.e4.symm) (rawW_read HP.out))
  clear hb3 hz3 HU2 HD2 HV2 HB2
  go_wp2_with fail
  generalize w2.alloc (.cells #[.int .i64 (n : Int), .int .i64 (m : Int), .int .i64 (s : Int), .int .i64 16, .int .i64 (sl : Int), .int .i64 (bm : Int), .int .i64 (bk : Int), .int .i64 (E : Int), .slice (some ⟨g, 0, none⟩) E gc] 30) = w3 at *
  refine HOP.out.mono ?_
  rintro r w4 ⟨vb, rfl, hvb, hvo, hb⟩
  have HV4 := Lib.hid (hvo.sub (Q' := fun k => k < B ∨ k = vb) (fun k hk => by
    rcases hk with hk | rfl
    · exact .inl hk
    · exact .inr ⟨hvb, hvo.lt⟩) (.inr rfl))
  have HX4 := Lib.hid (HX3.out.keep hb)
  have HD4 := Lib.hid (HD3.out.keep hb)
  have HR4 := Lib.hid (HV3.out.keep hb)
  have HB4 := Lib.hid (HB3.out.trans (hb.mono HB3.out.size))
  have HVB := Lib.hid (show w2.heap.size + 1 ≤ vb by have := HS3.out; omega)
  clear hvb hvo hb HOP HX3 HD3 HV3 HB3 HU3 HS3
  have c0 := HX4.out.cell 0
  have c1 := HX4.out.cell 1
  have c2 := HX4.out.cell 2
  have c3 := HX4.out.cell 3
  have c4 := HX4.out.cell 4
  have c5 := HX4.out.cell 5
  have c6 := HX4.out.cell 6
  have c7 := HX4.out.cell 7
  have c8 := HX4.out.cell 8
  have d0 := HR4.out.cell 0
  have d1 := HR4.out.cell 1
  have d2 := HR4.out.cell 2
  have d3 := HR4.out.cell 3
  have d4 := HR4.out.cell 4
  have d5 := HR4.out.cell 5
  have d6 := HR4.out.cell 6
  have d7 := HR4.out.cell 7
  have d8 := HR4.out.cell 8
  have f0 := HR4.out.frozen 0
  have f1 := HR4.out.frozen 1
  have f2 := HR4.out.frozen 2
  have f3 := HR4.out.frozen 3
  have f4 := HR4.out.frozen 4
  have f5 := HR4.out.frozen 5
  have f6 := HR4.out.frozen 6
  have f7 := HR4.out.frozen 7
  have f8 := HR4.out.frozen 8
  have hxl := HX4.out.lt
  have hrl := HR4.out.lt
  have hN := HN.out
  have hVB := HVB.out
  have hne1 : ¬ w2.heap.size = w.heap.size + 1 := by omega
  have hne2 : ¬ w.heap.size + 1 = w2.heap.size := by omega
  go_wp2_with fail
  go_region
  go_wp2
  have hd : ∀ V : World, Below V.heap.size V V.drew := fun V => ⟨rfl, rfl, rfl, Nat.le_refl _, fun _ _ => rfl⟩
  refine bodyPost_ret (v := .tuple #[.pointer (some ⟨vb, 0, none⟩), .agg #[.int .i64 (n : Int), .int .i64 (m : Int), .int .i64 (s : Int), .int .i64 16, .int .i64 (sl : Int), .int .i64 (bm : Int), .int .i64 (bk : Int), .int .i64 (E : Int), .slice (some ⟨g, 0, none⟩) E gc]]) ?_ rfl ⟨fun k => k < B ∨ k = vb, vb, a, g, gc, rfl, ⟨?_, .inl hN.2.1.2, fun k hk => .inl (by omega), ?_, hN.2.2.2, ?_, rawW_len HP.out⟩⟩
  · simp [results, Tryz.results67, go_sem, d0, d1, d2, d3, d4, d5, d6, d7, d8]
  · refine Vo.keep ?_ (hd _)
    iterate 9 refine Vo.put ?_ (.inl hN.1) (by show vb ≠ w.heap.size + 1; omega) _
    exact HV4.out
  · refine Pack.Wds.keep ?_ (hd _)
    iterate 9 refine wds_block ?_ (Below.heap_setCell _ _ _ _ (by show g ≠ w.heap.size + 1; omega))
    exact HD4.out
  · refine Below.trans ?_ ((hd _).mono (by simp only [World.setCell, Array.size_modify]; exact HB4.out.size))
    iterate 9 refine Below.setCell ?_ (Nat.le_succ _) _
    exact HB4.out
end
end Chn
end Go.Proofs.YtilolepbfmcbgaaGreatDoor
/- cantleref16.Same of what is the same; law 16's Lives. -/
namespace Go.Proofs.YtilolepbfmcbgaaGreatDoor
open Go.RowKit Go.MapKept
namespace Chn
open Vol (Vo Up Kq Hb hb_new hb_grown hb_apart Ov Pl gn gs dv rawW rawW_len)

set_option maxHeartbeats 1000000 in
set_option maxRecDepth 100000 in
theorem rsame_yes (w : World) (A B : Option Addr) (c d : Nat) (l : List Int) (h : Pack.Nts w A l) (k : Pack.Nts w B l) :
    Calls Tryz.prog 15 #[.slice A l.length c, .slice B l.length d] w fun r w' => r = .returned (.bool true) ∧ Below w.heap.size w w' := by
  have H := Lib.hid h
  have K := Lib.hid k
  have hl := h.len
  clear h k
  go_enter Tryz.func15, Tryz.ntmps15
  go_wp2
  go_loopw [13] (fun i wr => ∃ m : Nat, m ≤ l.length ∧ i = .int .i64 (m : Int) ∧ Below w.heap.size w wr) (fun i _ => l.length - (intOf i).toNat)
  case atStart => exact ⟨0, Nat.zero_le _, rfl, Below.refl _ _⟩
  case round =>
    obtain ⟨m, hm, rfl, hb⟩ := hrel
    by_cases hlt : m < l.length
    · obtain ⟨b, o, rfl, hbb, hc0⟩ := H.out.at' m hlt
      obtain ⟨b2, o2, rfl, hbb2, hd0⟩ := K.out.at' m hlt
      have hc0 := (hb.cell (p := ⟨b, o + m, none⟩) hbb).trans hc0
      have hd0 := (hb.cell (p := ⟨b2, o2 + m, none⟩) hbb2).trans hd0
      have hbb := Nat.lt_of_lt_of_le hbb hb.size
      have hbb2 := Nat.lt_of_lt_of_le hbb2 hb.size
      have HB := Lib.hid (hb.drew)
      have hmi : (m : Int) < (l.length : Int) := by omega
      clear hb
      go_wp2
      go_region
      go_wp2
      exact ⟨⟨m + 1, by omega, by go_num, HB.out⟩, by simp [intOf]; omega⟩
    · obtain rfl : m = l.length := by omega
      go_wp2
      go_ret
      exact ⟨rfl, hb⟩

theorem nts_two (w : World) (x y : Int) (hx : -9223372036854775808 ≤ x ∧ x ≤ 9223372036854775807) (hy : -9223372036854775808 ≤ y ∧ y ≤ 9223372036854775807) : Pack.Nts (w.alloc (.cells #[.int .i64 x, .int .i64 y] 3)) (some ⟨w.heap.size, 0, none⟩) [x, y] :=
  ⟨fun n h => by
    rcases List.mem_cons.1 h with rfl | h
    · exact hx
    · obtain rfl : n = y := by simpa using h
      exact hy, by simp, fun j hj => ⟨_, _, rfl, by simp, by
    match j, hj with
    | 0, _ => exact Pack.alloc_cell w _ _ 0
    | 1, _ => exact Pack.alloc_cell w _ _ 1⟩⟩
theorem nts_three (w : World) (x y z : Int) (hx : -9223372036854775808 ≤ x ∧ x ≤ 9223372036854775807) (hy : -9223372036854775808 ≤ y ∧ y ≤ 9223372036854775807) (hz : -9223372036854775808 ≤ z ∧ z ≤ 9223372036854775807) : Pack.Nts (w.alloc (.cells #[.int .i64 x, .int .i64 y, .int .i64 z] 3)) (some ⟨w.heap.size, 0, none⟩) [x, y, z] :=
  ⟨fun n h => by
    simp only [List.mem_cons, List.not_mem_nil, or_false] at h
    rcases h with rfl | rfl | rfl
    · exact hx
    · exact hy
    · exact hz, by simp, fun j hj => ⟨_, _, rfl, by simp, by
    match j, hj with
    | 0, _ => exact Pack.alloc_cell w _ _ 0
    | 1, _ => exact Pack.alloc_cell w _ _ 1
    | 2, _ => exact Pack.alloc_cell w _ _ 2⟩⟩
theorem prs_two (w : World) (x y z u : Int) (hx : -9223372036854775808 ≤ x ∧ x ≤ 9223372036854775807) (hy : -9223372036854775808 ≤ y ∧ y ≤ 9223372036854775807) (hz : -9223372036854775808 ≤ z ∧ z ≤ 9223372036854775807) (hu : -9223372036854775808 ≤ u ∧ u ≤ 9223372036854775807) : Prs (w.alloc (.cells #[.int .i64 x, .int .i64 y, .int .i64 z, .int .i64 u] 138)) (some ⟨w.heap.size, 0, none⟩) [(x, y), (z, u)] :=
  ⟨fun r h => by
    rcases List.mem_cons.1 h with rfl | h
    · exact ⟨hx, hy⟩
    · obtain rfl : r = (z, u) := by simpa using h
      exact ⟨hz, hu⟩, by simp, fun j hj => ⟨w.heap.size, 0, rfl, by simp, by
    match j, hj with
    | 0, _ => exact Pack.alloc_cell w _ _ 0
    | 1, _ => exact Pack.alloc_cell w _ _ 2, by
    match j, hj with
    | 0, _ => exact Pack.alloc_cell w _ _ 1
    | 1, _ => exact Pack.alloc_cell w _ _ 3⟩⟩
theorem wr_ex : Wr (gn 9) [2, 0] [(5, 2), (1, 1)] := ⟨by decide, rfl, by decide, by decide, by decide⟩
theorem mays_pts {n : Nat} {S : List Nat} {R : List (Nat × Nat)} (h : Wr n S R) : Mays (pts S R) := by
  intro p hp
  obtain ⟨k, hk, rfl⟩ := List.mem_map.1 hp
  exact (pk_may h (by simpa using hk)).2.2
theorem pts_ex : Mays (pts [2, 0] [(5, 2), (1, 1)]) := mays_pts wr_ex

set_option maxHeartbeats 4000000 in
set_option maxRecDepth 100000 in
theorem lives_any (w : World) (hT : Bm.Tab w) : Calls Tryz.prog 32 #[] w fun r w' => r = .returned (.bool true) ∧ Below w.heap.size w w' := by
  have HT := Lib.hid hT
  obtain ⟨sl, bm, bk, E, hpl⟩ := Vol.pl_any 9 1 0
  have HO := Lib.hid (copen_any w 9 1 0 (by omega) (by omega) (by omega) none 0 (ws := []) (Pack.wds_nil w none) hpl)
  have HL11 := Lib.hid (fun w' (hb : Below w.heap.size w w') => Rn.lives_any w' (hT.below hb hT.lt))
  have HL15 := Lib.hid (fun w' (hb : Below w.heap.size w w') => Vol.lives_any w' (hT.below hb hT.lt))
  clear hT
  go_enter Tryz.func32, Tryz.ntmps32
  go_wp2_with fail
  refine HO.out.mono ?_
  rintro e w1 ⟨Q, vb, a, g, gc, rfl, hov⟩
  have hb2 := (Below.refl w1.heap.size w1).alloc (Nat.le_refl _) (.cells (dv (gn 9) (gn 1) (gs 0) sl bm bk E (.slice (some ⟨g, 0, none⟩) E gc)) 30)
  have HV2 := Lib.hid (hov.vo.grow hb2)
  have HQ := Lib.hid (show ∀ k, k < w.heap.size → Q k from hov.ql)
  have HB2 := Lib.hid (hov.below.trans (hb2.mono hov.below.size))
  clear hb2 hov HO
  unfold dv at HV2 HB2 ⊢
  go_wp2_with fail
  obtain ⟨Q2, hQ2⟩ : ∃ Q2 : Nat → Prop, Q2 = fun k => Q k ∨ (w1.heap.size ≤ k ∧ k < (w1.alloc (.cells #[.int .i64 (gn 9 : Nat), .int .i64 (gn 1 : Nat), .int .i64 (gs 0 : Nat), .int .i64 16, .int .i64 (sl : Int), .int .i64 (bm : Int), .int .i64 (bk : Int), .int .i64 (E : Int), .slice (some ⟨g, 0, none⟩) E gc] 30)).heap.size) := ⟨_, rfl⟩
  rw [← hQ2] at HV2
  have HQ2 := Lib.hid (show ∀ k, k < w.heap.size → Q2 k by rw [hQ2]; exact fun k hk => .inl (HQ.out k hk))
  clear hQ2 HQ
  generalize w1.alloc (.cells #[.int .i64 (gn 9 : Nat), .int .i64 (gn 1 : Nat), .int .i64 (gs 0 : Nat), .int .i64 16, .int .i64 (sl : Int), .int .i64 (bm : Int), .int .i64 (bk : Int), .int .i64 (E : Int), .slice (some ⟨g, 0, none⟩) E gc] 30) = w2 at *
  refine (HL11.out _ HB2.out).mono ?_
  rintro e w3 ⟨rfl, hb⟩
  have HV3 := Lib.hid (HV2.out.keep hb)
  have HB3 := Lib.hid (HB2.out.trans (hb.mono HB2.out.size))
  clear hb HV2 HB2 HL11
  go_wp2_with fail
  refine (HL15.out _ HB3.out).mono ?_
  rintro e w4 ⟨rfl, hb⟩
  have HV4 := Lib.hid (HV3.out.keep hb)
  have HB4 := Lib.hid (HB3.out.trans (hb.mono HB3.out.size))
  clear hb HV3 HB3 HL15
  go_wp2_with fail
  have hb6 := ((Below.refl w4.heap.size w4).alloc (Nat.le_refl _) (.cells #[.int .i64 2, .int .i64 0] 3)).alloc (by simp) (.cells #[.int .i64 5, .int .i64 2, .int .i64 1, .int .i64 1] 138)
  have hns := (nts_two w4 2 0 (by omega) (by omega)).keep ((Below.refl (w4.alloc (.cells #[.int .i64 2, .int .i64 0] 3)).heap.size (w4.alloc (.cells #[.int .i64 2, .int .i64 0] 3))).alloc (Nat.le_refl _) (.cells #[.int .i64 5, .int .i64 2, .int .i64 1, .int .i64 1] 138))
  have hps := prs_two (w4.alloc (.cells #[.int .i64 2, .int .i64 0] 3)) 5 2 1 1 (by omega) (by omega) (by omega) (by omega)
  rw [World.size_alloc] at hps
  have HV6 := Lib.hid (HV4.out.grow hb6)
  have HB6 := Lib.hid (HB4.out.trans (hb6.mono HB4.out.size))
  have hz6 : ((w4.alloc (.cells #[.int .i64 2, .int .i64 0] 3)).alloc (.cells #[.int .i64 5, .int .i64 2, .int .i64 1, .int .i64 1] 138)).heap.size = w4.heap.size + 2 := by simp
  have HW := Lib.hid (write_yes HV6.out (some ⟨w4.heap.size, 0, none⟩) (some ⟨w4.heap.size + 1, 0, none⟩) 2 2 [2, 0] [(5, 2), (1, 1)] hns hps wr_ex (fun x hx _ => by cases hx; exact .inr ⟨Nat.le_refl _, by rw [hz6]; show w4.heap.size < w4.heap.size + 2; omega⟩) (fun x hx _ => by cases hx; exact .inr ⟨Nat.le_succ _, by rw [hz6]; show w4.heap.size + 1 < _; omega⟩) (by simp))
  clear hb6 hns hps hz6 HV4 HB4
  simp only [List.length_cons, List.length_nil, Nat.zero_add, Nat.reduceAdd] at HW
  refine HW.out.mono ?_
  rintro e w7 ⟨rfl, hv7, hk7⟩
  have HB7 := Lib.hid (HB6.out.trans (hk7.below HB6.out.size (fun k hk => .inl (HQ2.out k hk))))
  have hrd := read_any hv7 2
  have hlen := rawW_len (ws := []) hpl
  have hat := hpl.at
  have hrr := wk_read (W := rawW (gn 9) (gn 1) (gs 0) E []) (b := 16 + gn 1 * 8) wr_ex (by rw [hlen]; omega)
  rw [show hd [2, 0] 0 = 2 from rfl] at hrr
  simp only [List.length_cons, List.length_nil, Nat.zero_add, Nat.reduceAdd] at hrr
  unfold RdTo at hrd
  rw [hrr] at hrd
  simp only at hrd
  have HRD := Lib.hid hrd
  clear hrd hrr hat hlen hv7 hk7 HW HV6 HB6
  go_wp2_with fail
  refine HRD.out.mono ?_
  rintro e w8 ⟨A8, c8, B8, d8, rfl, hn8, hp8, hc8, hd8, hb8⟩
  have HB8 := Lib.hid (HB7.out.trans (hb8.mono HB7.out.size))
  have HBK := Lib.hid (fun w' (hb : Below w8.heap.size w8 w') => blocks_any w' A8 B8 (pts [2, 0] [(5, 2), (1, 1)]).length c8 d8 (pts [2, 0] [(5, 2), (1, 1)]) (hp8.keep hb) pts_ex (by decide))
  clear hn8 hp8 hc8 hd8 hb8 HRD HB7
  rw [show tot (pts [2, 0] [(5, 2), (1, 1)]) = 3 from rfl, show blk (pts [2, 0] [(5, 2), (1, 1)]) = [5, 6, 1] from rfl, show (pts [2, 0] [(5, 2), (1, 1)]).length = 2 from rfl] at HBK
  rw [show (pts [2, 0] [(5, 2), (1, 1)]).length = 2 from rfl]
  go_wp2_with fail
  have hb9 := (Below.refl w8.heap.size w8).alloc (Nat.le_refl _) (.cells #[.slice A8 2 c8, .slice B8 2 d8] 63)
  refine (HBK.out _ hb9).mono ?_
  rintro e w10 ⟨G, gc, rfl, hnt, hb10⟩
  have HB10 := Lib.hid ((HB8.out.trans (hb9.mono HB8.out.size)).trans (hb10.mono (Nat.le_trans HB8.out.size hb9.size)))
  have hal := (Below.refl w10.heap.size w10).alloc (Nat.le_refl _) (.cells #[.int .i64 5, .int .i64 6, .int .i64 1] 3)
  have HSM := Lib.hid (rsame_yes _ G (some ⟨w10.heap.size, 0, none⟩) gc 3 [5, 6, 1] (hnt.keep hal) (nts_three w10 5 6 1 (by omega) (by omega) (by omega)))
  have HB11 := Lib.hid (HB10.out.trans (hal.mono HB10.out.size))
  simp only [List.length_cons, List.length_nil, Nat.zero_add, Nat.reduceAdd] at HSM
  clear hb9 hnt hb10 hal HBK HB8 HB10
  go_wp2_with fail
  refine HSM.out.mono ?_
  rintro e w12 ⟨rfl, hb⟩
  have HB12 := Lib.hid (HB11.out.trans (hb.mono HB11.out.size))
  clear hb
  go_wp2
  go_ret
  exact ⟨rfl, HB12.out⟩
end Chn
end Go.Proofs.YtilolepbfmcbgaaGreatDoor
/- Law 17's Lives. -/
namespace Go.Proofs.YtilolepbfmcbgaaGreatDoor
open Go.RowKit Go.MapKept
namespace Clm
open Chn (Pt New Prt slots Mays tot blk blk_len rd pat fw)
open Vol (Vo Hb hb_new Ov Pl gn gs dv rawW rawW_len rdw rx)

/-- a free inode -/
def z0 : Cl := ⟨0, 0, 0, []⟩
theorem raw0 (n m s E j : Nat) (hj : 8 ≤ j) : (rawW n m s E [])[j]?.getD 0 = 0 := by
  unfold rawW
  rw [List.getElem?_append_right (by rw [Sup.sb_len]; exact hj), List.getElem?_map]
  cases (List.range (E - 8))[j - (Sup.sb n m s).length]? with
  | none => rfl
  | some x => simp [rx]
theorem rdw_zero (W : List Nat) (p : Nat) (h : ∀ j, p ≤ j → j < p + 8 → W[j]?.getD 0 = 0) : rdw W p 8 = Ino.ln 0 0 0 := by
  rw [Ino.ln_zero]
  refine List.ext_getElem (by rw [Vol.rdw_len]; rfl) (fun i h1 h2 => ?_)
  have h3 : i < 8 := h2
  rw [Vol.rdw_get, h (p + i) (by omega) (by omega)]
  unfold Ino.zero
  match i, h3 with
  | 0, _ => rfl
  | 1, _ => rfl
  | 2, _ => rfl
  | 3, _ => rfl
  | 4, _ => rfl
  | 5, _ => rfl
  | 6, _ => rfl
  | 7, _ => rfl
theorem one_free (f : Nat → Option (Nat × Nat × Nat)) (n s : Nat) (hs : 0 < s) : one f n s (some (0, 0, 0)) = some z0 :=
  one_yes (l := []) (Chn.rd_iff.2 ⟨rfl, Nat.zero_le _⟩) ((need_iff hs).2 ⟨Nat.zero_le _, fun d hd => by simp [tot] at hd⟩)
theorem gi_free {W : List Nat} {n m s i : Nat} (hs : 0 < s) (h : ∀ j, 16 + 8 * i ≤ j → j < 16 + 8 * i + 8 → W[j]?.getD 0 = 0) : gi W n m s i = some z0 := by
  unfold gi
  rw [rdw_zero W _ h, Ino.dec_ln (by decide)]
  exact one_free _ _ _ hs
theorem scn_free {g : Nat → Option Cl} : ∀ {i : Nat}, (∀ j, j < i → g j = some z0) → scn g i = some (List.replicate i z0)
  | 0, _ => rfl
  | i + 1, h => by
    have h1 := scn_free (i := i) (fun j hj => h j (by omega))
    have e1 : sl (List.replicate i z0) = [] := by simp [sl, sls, z0]
    have e2 : bl (List.replicate i z0) = [] := by simp [bl, blk, z0]
    rw [scn_next h1 (h i (by omega)) (by rw [e1]; exact List.nodup_nil) (by rw [e2]; exact List.nodup_nil), List.replicate_succ']
theorem zero_any (w : World) : Calls Tryz.prog 27 #[] w fun r w' => r = .returned (.agg #[.int .u8 4, .int .u8 2, .int .u8 0, .slice none 0 0]) ∧ Below w.heap.size w w' := by
  go_enter Tryz.func27, Tryz.ntmps27
  go_wp2
  refine bodyPost_ret (v := .agg #[.int .u8 4, .int .u8 2, .int .u8 0, .slice none 0 0]) ?_ rfl ⟨rfl, (Below.refl _ _).alloc (Nat.le_refl _) _⟩
  simp [results, Tryz.results27, go_sem]
theorem kd_free (i k : Nat) : kd (List.replicate i z0) k = 0 := by
  unfold kd
  by_cases h : k < i
  · rw [List.getElem?_replicate_of_lt h]; rfl
  · rw [List.getElem?_eq_none (by simp; omega)]; rfl
set_option maxHeartbeats 4000000 in
set_option maxRecDepth 100000 in
theorem lives_any (w : World) (hT : Bm.Tab w) : Calls Tryz.prog 7 #[] w fun r w' => r = .returned (.bool true) ∧ Below w.heap.size w w' := by
  have HT := Lib.hid hT
  obtain ⟨sl', bm', bk', E, hpl⟩ := Vol.pl_any 4 2 0
  have HZ := Lib.hid (zero_any w)
  have HO := Lib.hid (fun w' => kopen_any w' 4 2 0 (by omega) (by omega) (by omega) none 0 (ws := []) (Pack.wds_nil w' none) hpl)
  have HL16 := Lib.hid (fun w' (hb : Below w.heap.size w w') => Chn.lives_any w' (hT.below hb hT.lt))
  clear hT
  go_enter Tryz.func7, Tryz.ntmps7
  go_wp2_with fail
  refine HZ.out.mono ?_
  rintro e w0 ⟨rfl, hb⟩
  have HB0 := Lib.hid hb
  clear hb HZ
  go_wp2_with fail
  refine (HO.out _).mono ?_
  rintro e w1 ⟨Q, vb, a, g, gc, rfl, hov⟩
  have hb2 := (Below.refl w1.heap.size w1).alloc (Nat.le_refl _) (.cells (dv (gn 4) (gn 2) (gs 0) sl' bm' bk' E (.slice (some ⟨g, 0, none⟩) E gc)) 30)
  have HV2 := Lib.hid (hov.vo.keep hb2)
  have HB2 := Lib.hid (HB0.out.trans ((hov.below.trans (hb2.mono hov.below.size)).mono HB0.out.size))
  clear hb2 hov HO
  unfold dv at HV2 HB2 ⊢
  go_wp2_with fail
  generalize w1.alloc (.cells #[.int .i64 (gn 4 : Nat), .int .i64 (gn 2 : Nat), .int .i64 (gs 0 : Nat), .int .i64 16, .int .i64 (sl' : Int), .int .i64 (bm' : Int), .int .i64 (bk' : Int), .int .i64 (E : Int), .slice (some ⟨g, 0, none⟩) E gc] 30) = w2 at *
  generalize w1.heap.size = k1 at *
  refine (HL16.out _ HB2.out).mono ?_
  rintro e w3 ⟨rfl, hb⟩
  have HV3 := Lib.hid (HV2.out.keep hb)
  have HB3 := Lib.hid (HB2.out.trans (hb.mono HB2.out.size))
  clear hb HV2 HB2 HL16
  go_wp2_with fail
  refine (scan_any HV3.out).mono ?_
  intro e w4 k4
  have hsc : scn (gi (rawW (gn 4) (gn 2) (gs 0) E []) (gn 4) (gn 2) (gs 0)) (gn 2) = some (List.replicate (gn 2) z0) := scn_free fun j _ => gi_free (by decide) fun i hi _ => raw0 _ _ _ _ i (by omega)
  unfold ScTo at k4
  rw [hsc] at k4
  rcases k4 with ⟨h1, _⟩ | ⟨L, P, N, C, X, h1, rfl, hq, _, hb⟩
  · cases h1
  injection h1 with h1
  subst h1
  have HQ4 := Lib.hid hq
  have HB4 := Lib.hid (HB3.out.trans (hb.mono HB3.out.size))
  clear hq hb hsc HB3 HV3
  go_wp2_with fail
  have hlen : (List.replicate (gn 2) z0).length = gn 2 := List.length_replicate
  have hfr : ∀ c ∈ List.replicate (gn 2) z0, c.k = 0 → c.p = 0 ∧ c.z = 0 := fun c hc _ => by
    obtain rfl := List.eq_of_mem_replicate hc
    exact ⟨rfl, rfl⟩
  have hnf : nf (List.replicate (gn 2) z0) (gn 2) = 0 := (Bm.Nx.next (.inr ⟨0, rfl, Nat.le_refl _, by decide, by simp [kd_free], fun c _ hc => by omega⟩ : Bm.Nx (fun i => kd (List.replicate (gn 2) z0) i != 0) false (gn 2) 0 0)).symm
  have hni := nextInode_any HQ4.out hlen hfr
  rw [hnf] at hni
  have e1 : sl (List.replicate (gn 2) z0) = [] := by simp [sl, sls, z0]
  have e2 : bl (List.replicate (gn 2) z0) = [] := by simp [bl, blk, z0]
  have HE1 := Lib.hid e1
  have HE2 := Lib.hid e2
  clear e1 e2 hlen hfr hnf
  refine hni.mono ?_
  rintro e w5 ⟨rfl, hb⟩
  have HQ5 := Lib.hid (HQ4.out.keep hb)
  have HB5 := Lib.hid (HB4.out.trans (hb.mono HB4.out.size))
  clear hb hni HQ4 HB4
  go_wp2_with fail
  refine (cblocks_any HQ5.out).mono ?_
  rintro e w6 ⟨p6, q6, C6, rfl, _, _, hm6, hb⟩
  rw [HE2.out] at hm6
  have HQ6 := Lib.hid (HQ5.out.keep hb)
  have HB6 := Lib.hid (HB5.out.trans (hb.mono HB5.out.size))
  have hct := Bm.count_any hm6
  rw [cnt_ins _ _ List.nodup_nil (by simp)] at hct
  clear hb HQ5 HB5
  go_wp2_with fail
  refine hct.mono ?_
  rintro e w7 ⟨rfl, rfl⟩
  clear hct hm6
  go_wp2_with fail
  refine (cslots_any HQ6.out).mono ?_
  rintro e w8 ⟨p8, q8, C8, rfl, _, _, hm8, hb⟩
  rw [HE1.out] at hm8
  have HB8 := Lib.hid (HB6.out.trans (hb.mono HB6.out.size))
  have hct := Bm.free_any hm8
  rw [cnt_ins _ _ List.nodup_nil (by simp)] at hct
  clear hb HQ6 HB6
  go_wp2_with fail
  refine hct.mono ?_
  rintro e w9 ⟨rfl, k9, rfl⟩
  clear hct hm8
  go_wp2
  go_ret
  exact ⟨rfl, HB8.out.trans ((drewN_below w8 k9).mono HB8.out.size)⟩
end Clm
end Go.Proofs.YtilolepbfmcbgaaGreatDoor
/- ClaimRoom, walked. -/
namespace Go.Proofs.YtilolepbfmcbgaaGreatDoor
open Go.RowKit Go.MapKept
namespace Clm
open Chn (Pt New Prt slots slots_len Mays tot blk blk_len rd pat fw own_prt)
open Vol (Vo Hb hb_new Ov Pl gn gs dv rawW rawW_len rdw)
open Pack (Nts)

/-- an inode's chain -/
def lf (L : List Cl) (i : Nat) : List Pt := (L[i]?.map Cl.l).getD []
theorem lf_get {L : List Cl} {i : Nat} (h : i < L.length) : lf L i = L[i].l := by simp [lf, List.getElem?_eq_getElem h]
/-- how many blocks such ones have -/
def sm (L : List Cl) (l : List Nat) : Nat := (l.map fun i => tot (lf L i)).sum
theorem sm_snoc (L : List Cl) (l : List Nat) (i : Nat) : sm L (l ++ [i]) = sm L l + tot (lf L i) := by simp [sm]
theorem sm_take {L : List Cl} {l : List Nat} {t : Nat} (h : t < l.length) : sm L (l.take (t + 1)) = sm L (l.take t) + tot (lf L l[t]) := by
  rw [List.take_succ_eq_append_getElem h, sm_snoc]
theorem sm_le (L : List Cl) : ∀ (l : List Nat) (t : Nat), sm L (l.take t) ≤ sm L l
  | l, t => by
    have : ∀ (a b : List Nat), sm L a ≤ sm L (a ++ b) := fun a b => by
      unfold sm
      rw [List.map_append, List.sum_append]
      omega
    have h := this (l.take t) (l.drop t)
    rwa [List.take_append_drop] at h
theorem sm_used {L : List Cl} (hf : ∀ c ∈ L, c.k = 0 → c.l = []) : ∀ t, t ≤ L.length → sm L (ut L t) = (bl (L.take t)).length
  | 0, _ => by simp [sm, ut, bl]
  | t + 1, h => by
    have ht : t < L.length := by omega
    have ih := sm_used hf t (by omega)
    have e : L.take (t + 1) = L.take t ++ [L[t]] := List.take_succ_eq_append_getElem ht
    rw [e, bl_snoc, List.length_append, ← ih]
    by_cases hk : kd L t = 0
    · rw [ut_no hk]
      rw [kd_get ht] at hk
      rw [hf _ (List.getElem_mem ht) hk]
      simp [blk]
    · rw [ut_yes hk, sm_snoc, lf_get ht, blk_len]
theorem few_of {X : List Nat} {n : Nat} (h : X.Nodup) (hn : ∀ x ∈ X, x < n) : X.length ≤ n := by
  have := List.Nodup.length_le_of_subset (l₁ := X) (l₂ := List.range n) h (fun x hx => List.mem_range.2 (hn x hx))
  simpa using this
/-- free inodes of claims that are all right -/
theorem Oks.zero {f : Nat → Option (Nat × Nat × Nat)} {n s : Nat} {L : List Cl} (h : Oks f n s L) : ∀ c ∈ L, c.k = 0 → c.p = 0 ∧ c.z = 0 := fun c hc hk => ⟨((h.each c hc).free hk).1, ((h.each c hc).free hk).2.1⟩
theorem Oks.none' {f : Nat → Option (Nat × Nat × Nat)} {n s : Nat} {L : List Cl} (h : Oks f n s L) : ∀ c ∈ L, c.k = 0 → c.l = [] := fun c hc hk => ((h.each c hc).free hk).2.2

section
variable {ws : List Nat}
set_option maxHeartbeats 4000000 in
set_option maxRecDepth 100000 in
theorem room_law (w : World) (hT : Bm.Tab w) (x y k : Nat) (hx : x < 256) (hy : y < 256) (hk : k < 256) (A : Option Addr) (c : Nat) (hws : Pack.Wds w A ws) :
    Calls Tryz.prog 4 #[.agg #[.int .u8 (x : Int), .int .u8 (y : Int), .int .u8 (k : Int), .slice A ws.length c]] w fun r w' => r = .returned (.bool true) ∧ Below w.heap.size w w' := by
  obtain ⟨sl', bm', bk', E, hpl⟩ := Vol.pl_any x y k
  have HL := Lib.hid (fun w' (hb : Below w.heap.size w w') => lives_any w' (hT.below hb hT.lt))
  have HO := Lib.hid (fun w' (hb : Below w.heap.size w w') => kopen_any w' x y k hx hy hk A c (hws.keep hb) hpl)
  have HT := Lib.hid (fun w' (hb : Below w.heap.size w w') => hT.below hb hT.lt)
  have hn20 := hpl.n20
  have hm20 := hpl.m20
  obtain ⟨n, hn⟩ : ∃ n, n = gn x := ⟨_, rfl⟩
  obtain ⟨m, hm⟩ : ∃ m, m = gn y := ⟨_, rfl⟩
  obtain ⟨s, hs⟩ : ∃ s, s = gs k := ⟨_, rfl⟩
  rw [← hn, ← hm, ← hs] at HO
  rw [← hn] at hn20
  rw [← hm] at hm20
  clear hn hm hs hpl hT hws
  go_enter Tryz.func4, Tryz.ntmps4
  have HB0 := Lib.hid ((Below.refl w.heap.size w).alloc (Nat.le_refl _) (.cells #[.int .u8 (x : Int), .int .u8 (y : Int), .int .u8 (k : Int), .slice A ws.length c] 24))
  have HR0 := Lib.hid (hb_new w #[.int .u8 (x : Int), .int .u8 (y : Int), .int .u8 (k : Int), .slice A ws.length c] 24)
  go_wp2_with fail
  generalize w.alloc (.cells #[.int .u8 (x : Int), .int .u8 (y : Int), .int .u8 (k : Int), .slice A ws.length c] 24) = w0 at *
  refine (HL.out _ HB0.out).mono ?_
  rintro e w1 ⟨rfl, hb⟩
  have HB1 := Lib.hid (HB0.out.trans (hb.mono HB0.out.size))
  have HR1 := HR0.out.keep hb
  clear hb HL HB0 HR0
  have r0 := HR1.cell 0
  have r1 := HR1.cell 1
  have r2 := HR1.cell 2
  have r3 := HR1.cell 3
  have rl := HR1.lt
  clear HR1
  go_wp2_with fail
  refine (HO.out _ HB1.out).mono ?_
  rintro e w3 ⟨Q, vb, a, g, gc, rfl, hov⟩
  clear r0 r1 r2 r3 rl
  have hb4 := (Below.refl w3.heap.size w3).alloc (Nat.le_refl _) (.cells (dv n m s sl' bm' bk' E (.slice (some ⟨g, 0, none⟩) E gc)) 30)
  have HV4 := Lib.hid (hov.vo.keep hb4)
  have HB4 := Lib.hid ((HB1.out.trans (hov.below.mono HB1.out.size)).trans (hb4.mono (Nat.le_trans HB1.out.size hov.below.size)))
  have HX4 := Lib.hid (hb_new w3 (dv n m s sl' bm' bk' E (.slice (some ⟨g, 0, none⟩) E gc)) 30)
  clear hov hb4 HO HB1
  unfold dv at HV4 HB4 HX4 ⊢
  go_wp2_with fail
  generalize w3.alloc (.cells #[.int .i64 (n : Int), .int .i64 (m : Int), .int .i64 (s : Int), .int .i64 16, .int .i64 (sl' : Int), .int .i64 (bm' : Int), .int .i64 (bk' : Int), .int .i64 (E : Int), .slice (some ⟨g, 0, none⟩) E gc] 30) = w4 at *
  generalize w3.heap.size = b3 at *
  clear w3
  generalize rawW n m s E ws = W at *
  refine (scan_any HV4.out).mono ?_
  intro e w5 k5
  unfold ScTo at k5
  rcases k5 with ⟨_, rfl, hb⟩ | ⟨L, P, N, C, X, hsc, rfl, hq, _, hb⟩
  · have HB5 := Lib.hid (HB4.out.trans (hb.mono HB4.out.size))
    go_wp2
    go_ret
    exact ⟨rfl, HB5.out⟩
  obtain ⟨hok, hLm⟩ := scn_oks (fun _ _ h => gi_ok h) hsc
  have HB5 := Lib.hid (HB4.out.trans (hb.mono HB4.out.size))
  have HX5 := Lib.hid (HX4.out.keep hb)
  have HQ5 := Lib.hid hq
  have HOK := Lib.hid hok
  have HLM := Lib.hid hLm
  have HUS := Lib.hid (fun w' (hb : Below w5.heap.size w5 w') => used_any (hq.keep hb) hLm hok.zero)
  have HNS := Lib.hid (fun w' (hb : Below w5.heap.size w5 w') => nextSlots_any (hq.keep hb) (HT.out w' (HB5.out.trans (hb.mono HB5.out.size))) ((n : Int) + 5) (by omega))
  have hfr := free_any hq hLm hok.zero
  rw [cnt_ins _ _ hok.bl hok.bl_lt, cnt_ins _ _ hok.sl hok.sl_lt] at hfr
  have HFR := Lib.hid hfr
  have h1 := few_of hok.bl hok.bl_lt
  have h2 := few_of hok.sl hok.sl_lt
  have h3 := hok.slots_le fw_may
  have hsm := sm_used hok.none' L.length (Nat.le_refl _)
  rw [List.take_length] at hsm
  have hfl := fre_len (ins (sl L)) n
  rw [cnt_ins _ _ hok.sl hok.sl_lt] at hfl
  have hr5 : ((fre (ins (sl L)) n).take ((n : Int) + 5).toNat).length = n - (sl L).length := by
    rw [List.length_take, hfl]
    omega
  generalize (fre (ins (sl L)) n).take ((n : Int) + 5).toNat = R at *
  have HSM := Lib.hid hsm
  clear hq hb hsc hok hfr hfl hLm hsm HV4 HX4 HB4
  generalize (sl L).length = ns at *
  generalize hnb : (bl L).length = nb at *
  clear hnb
  go_wp2_with fail
  refine HFR.out.mono ?_
  rintro e w6 ⟨rfl, hb⟩
  have HB6 := Lib.hid hb
  clear hb HFR
  go_wp2_with fail
  refine (HUS.out _ HB6.out).mono ?_
  rintro e w7 ⟨G, gc', rfl, hng, hb⟩
  have HB7 := Lib.hid (HB6.out.trans (hb.mono HB6.out.size))
  have HG7 := Lib.hid hng
  clear hb hng HB6 HUS
  go_wp2
  have HSM2 := Lib.hid (show sm L (ut L m) = nb by rw [← HLM.out]; exact HSM.out)
  have HUL := Lib.hid (ut_len L m)
  have hul := HUL.out
  go_loopw [10, 40] (fun v q wr => ∃ t : Nat, t ≤ (ut L m).length ∧ q = .int .i64 (t : Int) ∧ v = .int .i64 (sm L ((ut L m).take t) : Nat) ∧ Below w7.heap.size w7 wr) (fun _ q _ => (ut L m).length - (intOf q).toNat)
  case atStart => exact ⟨0, Nat.zero_le _, rfl, rfl, Below.refl _ _⟩
  case round =>
    obtain ⟨t, ht, rfl, rfl, hb⟩ := hrel
    have HBR := Lib.hid (HB7.out.trans (hb.mono HB7.out.size))
    by_cases hlt : t < (ut L m).length
    · obtain ⟨bg, og, hG, hbg, hc0⟩ := (HG7.out.keep hb).at' t (by rw [List.length_map]; exact hlt)
      subst hG
      rw [List.getElem_map] at hc0
      have hui : (ut L m)[t] < L.length := by rw [HLM.out]; exact ut_lt _ (List.getElem_mem hlt)
      have hst := sm_take (L := L) hlt
      have hsl := sm_le L (ut L m) (t + 1)
      rw [HSM2.out] at hsl
      rw [lf_get hui] at hst
      generalize (ut L m)[t] = i at *
      have hc0 : wr.cell? ⟨bg, og + t, none⟩ = some (.int .i64 (i : Int)) := hc0
      have hlen := (HOK.out.each _ (List.getElem_mem hui)).few
      have HMY := Lib.hid ((HOK.out.each _ (List.getElem_mem hui)).mays fw_may)
      have HCH := Lib.hid (chain_yes (HQ5.out.keep HBR.out) HLM.out i hui (by omega))
      have HST := Lib.hid hst
      have HBW := Lib.hid hb
      have hti : (t : Int) < ((ut L m).length : Int) := by omega
      generalize L[i].l = l at *
      obtain ⟨T, hT⟩ : ∃ T, T = sm L ((ut L m).take t) := ⟨_, rfl⟩
      rw [← hT] at HST hst ⊢
      have hTl : T + tot l ≤ 20 := by omega
      clear hT hst hsl hb
      go_wp2_with fail
      refine HCH.out.mono ?_
      rintro e w8 ⟨A8, a8, D8, d8, rfl, _, ho8, hb⟩
      have HBW8 := Lib.hid (HBW.out.trans (hb.mono HBW.out.size))
      have HCT := Lib.hid (Chn.count_any w8 A8 D8 l.length a8 d8 l (own_prt ho8).1 HMY.out (by omega))
      clear hb ho8
      go_wp2_with fail
      refine HCT.out.mono ?_
      rintro e w9 ⟨rfl, hb⟩
      have HBW9 := Lib.hid (HBW8.out.trans (hb.mono HBW8.out.size))
      clear hb
      go_wp2
      refine ⟨⟨t + 1, by omega, by go_num, ?_, HBW9.out⟩, by simp [intOf]; omega⟩
      rw [HST.out]
      go_num
    · obtain rfl : t = (ut L m).length := by omega
      rw [List.take_length, HSM2.out]
      have HX := HX5.out.keep HBR.out
      have v0 := HX.cell 0
      have vl := HX.lt
      have f1 : ((n - nb : Nat) : Int) ≤ ((n - ns : Nat) : Int) := by omega
      have f2 : IntKind.i64.wrap ((nb : Int) + ((n - nb : Nat) : Int)) = (n : Int) := by
        rw [show (nb : Int) + ((n - nb : Nat) : Int) = (n : Int) by omega]
        exact IntWalk.i64_in _ (by omega)
      have f3 : IntKind.i64.wrap ((n : Int) + 5) = (n : Int) + 5 := IntWalk.i64_in _ (by omega)
      have HN9 := Lib.hid (HNS.out wr HBR.out)
      have HR5 := Lib.hid hr5
      clear hr5 hb HX
      have f4 : (R.length : Int) = ((n - ns : Nat) : Int) := by have := HR5.out; omega
      clear HR5
      generalize ((n - ns : Nat) : Int) = is at *
      have F4 := Lib.hid f4
      clear f4
      go_wp2_with fail
      refine HN9.out.mono ?_
      rintro e w9 ⟨A9, a9, rfl, _, hb⟩
      have HBF := Lib.hid (HB5.out.trans ((HBR.out.trans (hb.mono HBR.out.size)).mono HB5.out.size))
      clear hb
      have f5 := F4.out
      go_wp2
      go_ret
      exact ⟨rfl, HBF.out⟩
end
end Clm
end Go.Proofs.YtilolepbfmcbgaaGreatDoor
/- The laws' arguments, as they are read, opened to lists. -/
namespace Go.Proofs.YtilolepbfmcbgaaGreatDoor
open Go.RowKit Go.MapKept Go.ChangeShapes Go.WideShapes Go.Deep
namespace Pack
section
variable {H : Type} {enc : TypeId × Value → H} {W : World} {fuel : Nat} {sp : Nat → Bool} {held : Bool}

theorem cells_int : Tryz.prog.cellsOf 3 = 1 := by kernel_rfl
theorem cells_u64 : Tryz.prog.cellsOf 121 = 1 := by kernel_rfl
theorem cells_field : Tryz.prog.cellsOf 162 = 2 := by kernel_rfl

theorem u64_bounds {k : Int} (h : (Lit.int .u64 k).wf = true) : 0 ≤ k ∧ k < 18446744073709551616 := by
  have := bounds_u64 h
  omega
theorem i64_bounds {k : Int} (h : (Lit.int .i64 k).wf = true) : -9223372036854775808 ≤ k ∧ k ≤ 9223372036854775807 := by
  have := bounds_i64 h
  omega

theorem cell_lt {b o : Nat} {v : Value} (h : W.cell? ⟨b, o, none⟩ = some v) : b < W.heap.size := by
  rcases Nat.lt_or_ge b W.heap.size with h1 | h1
  · exact h1
  · simp [World.cell?, Array.getElem?_eq_none h1] at h

/-- a slice whose elements take one cell each -/
theorem open_ones {t e : TypeId} {v : Value} {x : DataW H × List MemPlace} {α : Type} (d : α) (R : α → Value → Prop) (ht : Tryz.prog.underlying t = some (.slice e)) (h1 : Tryz.prog.cellsOf e = 1)
    (hR : ∀ n u y, DataW.trod enc Tryz.prog W 0 sp held n e [u] = some y → ∃ a, R a u)
    (h : DataW.trod enc Tryz.prog W 0 sp held fuel t [v] = some x) :
    ∃ (A : Option Addr) (l : List α) (c : Nat), v = .slice A l.length c ∧ (A = none → c = 0) ∧ l.length ≤ 9223372036854775807 ∧ ∀ j (hj : j < l.length), ∃ b o u, A = some ⟨b, o, none⟩ ∧ b < W.heap.size ∧ W.cell? ⟨b, o + j, none⟩ = some u ∧ R l[j] u := by
  rcases open_slice1 ht h1 h with ⟨hcs, _⟩ | ⟨a, len, cap, m, n, V, D, Pl, hcs, _, hl, hm, hmm, _, hi⟩
  · simp at hcs
    exact ⟨none, [], 0, hcs, fun _ => rfl, by simp, fun j hj => absurd hj (by simp)⟩
  · simp at hcs
    have hlen : len ≤ 9223372036854775807 := by unfold maxLen at hm; omega
    have hjm : ∀ i, i < len → i < m := fun i hi => by rw [hmm]; split <;> omega
    have one : ∀ i, ∃ a' : α, i < len → R a' (V i) := fun i => by
      by_cases hil : i < len
      · obtain ⟨a', ha⟩ := hR _ _ _ (hi i (hjm i hil)).2
        exact ⟨a', fun _ => ha⟩
      · exact ⟨d, fun h => absurd h hil⟩
    obtain ⟨f, hf⟩ := Classical.skolem.1 one
    refine ⟨some a, (List.range len).map f, cap, by rw [List.length_map, List.length_range]; exact hcs, (fun h => by cases h), by rw [List.length_map, List.length_range]; exact hlen, fun j hj => ?_⟩
    rw [List.length_map, List.length_range] at hj
    have hc0 := (hi 0 (hjm 0 (by omega))).1
    obtain ⟨b, o, spot⟩ := a
    have hspot : spot = none := by simpa [Addr.add] using World.cell?_spot hc0
    subst hspot
    have hc := (hi j (hjm j hj)).1
    rw [add_plain] at hc
    refine ⟨b, o, V j, rfl, cell_lt hc, hc, ?_⟩
    rw [List.getElem_map, List.getElem_range]
    exact hf j hj

theorem open_words {v : Value} {x : DataW H × List MemPlace} (h : DataW.trod enc Tryz.prog W 0 sp held fuel 22 [v] = some x) : ∃ A l c, v = .slice A l.length c ∧ Wds W A l := by
  obtain ⟨A, l, c, e, hc, hl, ha⟩ := open_ones (α := Nat) 0 (fun k u => u = .int .u64 (k : Int) ∧ k < 18446744073709551616) Tryz.underlying22 cells_u64 (fun n u y hu => by
    obtain ⟨k, e, _, hw⟩ := DataW.trod_int Tryz.underlying121 hu
    simp at e
    have hb := u64_bounds hw
    obtain ⟨q, rfl⟩ := Int.eq_ofNat_of_zero_le hb.1
    exact ⟨q, e, by omega⟩) h
  refine ⟨A, l, c, e, fun b hb => ?_, hl, fun j hj => ?_⟩
  · obtain ⟨j, hj, rfl⟩ := List.getElem_of_mem hb
    obtain ⟨_, _, _, _, _, _, _, h2⟩ := ha j hj
    exact h2
  · obtain ⟨b, o, u, e, h1, h2, rfl, _⟩ := ha j hj
    exact ⟨b, o, e, h1, h2⟩

theorem open_ints {v : Value} {x : DataW H × List MemPlace} (h : DataW.trod enc Tryz.prog W 0 sp held fuel 50 [v] = some x) : ∃ A l c, v = .slice A l.length c ∧ Nts W A l := by
  obtain ⟨A, l, c, e, hc, hl, ha⟩ := open_ones (α := Int) 0 (fun k u => u = .int .i64 k ∧ -9223372036854775808 ≤ k ∧ k ≤ 9223372036854775807) Tryz.underlying50 cells_int (fun n u y hu => by
    obtain ⟨k, e, _, hw⟩ := DataW.trod_int Tryz.underlying3 hu
    simp at e
    exact ⟨k, e, i64_bounds hw⟩) h
  refine ⟨A, l, c, e, fun b hb => ?_, hl, fun j hj => ?_⟩
  · obtain ⟨j, hj, rfl⟩ := List.getElem_of_mem hb
    obtain ⟨_, _, _, _, _, _, _, h2⟩ := ha j hj
    exact h2
  · obtain ⟨b, o, u, e, h1, h2, rfl, _⟩ := ha j hj
    exact ⟨b, o, e, h1, h2⟩

set_option maxRecDepth 100000 in
/-- a field's two cells -/
theorem open_field {cs : List Value} {x : DataW H × List MemPlace} (h : DataW.trod enc Tryz.prog W 0 sp held fuel 162 cs = some x) :
    ∃ f : Fld, cs = [.int .i64 f.n, .int .u64 (f.v : Int)] ∧ -9223372036854775808 ≤ f.n ∧ f.n ≤ 9223372036854775807 ∧ f.v < 18446744073709551616 := by
  obtain ⟨ys, n, _, _, hlen, hyl, hf⟩ := DataW.trod_struct Tryz.underlying162 h
  rw [cells_field] at hlen
  match cs, hlen with
  | [c0, c1], _ =>
    have g0 : DataW.trod enc Tryz.prog W 0 sp held n 3 [c0] = ys[0]? := hf 0 _ rfl
    have g1 : DataW.trod enc Tryz.prog W 0 sp held n 121 [c1] = ys[1]? := hf 1 _ rfl
    have hy : ys.length = 2 := hyl
    rw [List.getElem?_eq_getElem (by omega)] at g0 g1
    obtain ⟨k, e0, _, w0⟩ := DataW.trod_int Tryz.underlying3 g0
    obtain ⟨y, e1, _, w1⟩ := DataW.trod_int Tryz.underlying121 g1
    simp at e0 e1
    subst e0 e1
    have hb := u64_bounds w1
    obtain ⟨q, rfl⟩ := Int.eq_ofNat_of_zero_le hb.1
    exact ⟨⟨k, q⟩, rfl, (i64_bounds w0).1, (i64_bounds w0).2, by show q < _; omega⟩

theorem open_fields {v : Value} {x : DataW H × List MemPlace} (h : DataW.trod enc Tryz.prog W 0 sp held fuel 198 [v] = some x) : ∃ A l c, v = .slice A l.length c ∧ Fds W A l := by
  rcases open_slice Tryz.underlying198 h with ⟨hcs, _⟩ | ⟨a, len, cap, m, n, D, Pl, hcs, _, hl, hm, hmm, hx, hi⟩
  · simp at hcs
    exact ⟨none, [], 0, hcs, fun f hf => by simp at hf, by simp, fun j hj => absurd hj (by simp)⟩
  · simp at hcs
    have hlen : len ≤ 9223372036854775807 := by unfold maxLen at hm; omega
    have hjm : ∀ i, i < len → i < m := fun i hi => by rw [hmm]; split <;> omega
    have one : ∀ i, ∃ f : Fld, i < len → (W.cell? (a.add (i * 2)) = some (.int .i64 f.n) ∧ W.cell? ((a.add (i * 2)).add 1) = some (.int .u64 (f.v : Int)) ∧ -9223372036854775808 ≤ f.n ∧ f.n ≤ 9223372036854775807 ∧ f.v < 18446744073709551616) := fun i => by
      by_cases hil : i < len
      · obtain ⟨cs', hc, ht⟩ := hi i (hjm i hil)
        rw [cells_field] at hc
        obtain ⟨f, rfl, h1, h2, h3⟩ := open_field ht
        obtain ⟨_, _, hat⟩ := World.cells?_some hc
        have g0 := hat 0 (by omega)
        have g1 := hat 1 (by omega)
        simp only [List.getElem?_cons_zero, List.getElem?_cons_succ] at g0 g1
        refine ⟨f, fun _ => ⟨?_, ?_, h1, h2, h3⟩⟩
        · simpa [Addr.add] using g0
        · exact g1
      · exact ⟨⟨0, 0⟩, fun h => absurd h hil⟩
    obtain ⟨f, hf⟩ := Classical.skolem.1 one
    have hget : ∀ j (hj : j < ((List.range len).map f).length), ((List.range len).map f)[j] = f j := fun j hj => by rw [List.getElem_map, List.getElem_range]
    refine ⟨some a, (List.range len).map f, cap, by rw [List.length_map, List.length_range]; exact hcs, fun g hg => ?_, by rw [List.length_map, List.length_range]; exact hlen, fun j hj => ?_⟩
    · obtain ⟨i, hi, rfl⟩ := List.mem_map.1 hg
      exact (hf i (List.mem_range.1 hi)).2.2
    · rw [hget j hj]
      rw [List.length_map, List.length_range] at hj
      have hc0 := (hf 0 (by omega)).1
      obtain ⟨b, o, spot⟩ := a
      have hspot : spot = none := by simpa [Addr.add] using World.cell?_spot hc0
      subst hspot
      obtain ⟨g0, g1, _⟩ := hf j hj
      simp only [Go.WideShapes.add_plain] at g0 g1
      exact ⟨b, o, rfl, cell_lt g0, g0, g1⟩
end
end Pack

theorem laidOut_try : laidOutB Tryz.prog = true := by kernel_rfl
theorem ownKnob_none : ownKnob Tryz.prog.godebug = none := by kernel_rfl
end Go.Proofs.YtilolepbfmcbgaaGreatDoor
/- Law 15's arguments, as they are read, opened: a raw device's words, an inode, a slot, a record. -/
namespace Go.Proofs.YtilolepbfmcbgaaGreatDoor
open Go.ChangeShapes Go.WideShapes Go.ChangeAt Go.RowKit Go.Joins
namespace Vol
/-- a raw device's words, as they are handed in -/
structure RawA where
  x : Nat
  y : Nat
  k : Nat
  A : Option Addr
  ws : List Nat
  c : Nat
def RawA.val (r : RawA) : Value := .agg #[.int .u8 (r.x : Int), .int .u8 (r.y : Int), .int .u8 (r.k : Int), .slice r.A r.ws.length r.c]
def RawOk (W : World) (r : RawA) : Prop := r.x < 256 ∧ r.y < 256 ∧ r.k < 256 ∧ Pack.Wds W r.A r.ws
theorem cells_raw : Tryz.prog.cellsOf 24 = 4 := by kernel_rfl
theorem cells_slot : Tryz.prog.cellsOf 74 = 3 := by kernel_rfl
section
variable {H : Type} {enc : TypeId × Value → H} {W : World} {sp : Nat → Bool} {held : Bool} {r : Reach} {b0 : Nat} {v : Value} {d : DataW H} {p : List MemPlace}
set_option maxRecDepth 100000 in
theorem open_raw (hv : Value.okWide Tryz.prog W r b0 24 v) (h : DataW.Trod enc Tryz.prog W 0 sp held 24 v d p) : ∃ y : RawA, v = y.val ∧ RawOk W y := by
  obtain ⟨c0, c1, c2, c3, y0, y1, y2, y3, m, rfl, rfl, rfl, hy0, hy1, hy2, hy3⟩ := open_agg4 Tryz.underlying24 (by kernel_rfl) cells_raw hv h
  obtain ⟨a, e0, _, wa⟩ := DataW.trod_int Tryz.underlying5 hy0
  obtain ⟨b, e1, _, wb⟩ := DataW.trod_int Tryz.underlying5 hy1
  obtain ⟨c, e2, _, wc⟩ := DataW.trod_int Tryz.underlying5 hy2
  obtain ⟨A, l, cp, e3, hl⟩ := Pack.open_words hy3
  simp at e0 e1 e2
  subst e0 e1 e2 e3
  have ba := bounds_u8 wa
  have bb := bounds_u8 wb
  have bc := bounds_u8 wc
  obtain ⟨a, rfl⟩ := Int.eq_ofNat_of_zero_le ba.1
  obtain ⟨b, rfl⟩ := Int.eq_ofNat_of_zero_le bb.1
  obtain ⟨c, rfl⟩ := Int.eq_ofNat_of_zero_le bc.1
  exact ⟨⟨a, b, c, A, l, cp⟩, rfl, by show a < 256; omega, by show b < 256; omega, by show c < 256; omega, hl⟩

set_option maxRecDepth 100000 in
theorem open_slot (hv : Value.okWide Tryz.prog W r b0 74 v) (h : DataW.Trod enc Tryz.prog W 0 sp held 74 v d p) : ∃ y : Int × Int × Int, v = .agg #[.int .i64 y.1, .int .i64 y.2.1, .int .i64 y.2.2] ∧ True := by
  obtain ⟨c0, c1, c2, y0, y1, y2, m, rfl, rfl, rfl, hy0, hy1, hy2⟩ := open_agg3 Tryz.underlying74 (by kernel_rfl) cells_slot hv h
  obtain ⟨a, e0, _, wa⟩ := DataW.trod_int Tryz.underlying3 hy0
  obtain ⟨b, e1, _, wb⟩ := DataW.trod_int Tryz.underlying3 hy1
  obtain ⟨c, e2, _, wc⟩ := DataW.trod_int Tryz.underlying3 hy2
  simp at e0 e1 e2
  subst e0 e1 e2
  exact ⟨(a, b, c), rfl, trivial⟩
end
end Vol
end Go.Proofs.YtilolepbfmcbgaaGreatDoor
/- What the rows' condition gives: the table of math/bits as it lies; a start that meets it. -/
namespace Go.Proofs.YtilolepbfmcbgaaGreatDoor
open Go.ChangeShapes Go.WideShapes Go.ChangeAt Go.RowKit

abbrev lst : List (String × DataW Unit) := [("math/bits.deBruijn64tab", Rows.laid_math_bits_deBruijn64tab)]
theorem tab_global : Tryz.prog.globalNamed "math/bits.deBruijn64tab" = some 0 := by kernel_rfl
theorem tab_type : (Tryz.prog.globals[0]?).map (·.type) = some 195 := by kernel_rfl
theorem tab_cells : Tryz.prog.cellsOf 5 = 1 := by kernel_rfl

theorem tab_datum : (Rows.laid_math_bits_deBruijn64tab : DataW Unit) = .agg (Lib.deBruijn64tab.map fun k : Nat => .lit (.int .u8 (k : Int))) := rfl

/-- the start that the program's own initialisers leave meets the condition -/
theorem door_met (os : Os) (args : Array Value) : laidMetH Tryz.prog lst ((World.doorLaid Tryz.prog 14 os).forCall (fun _ _ => 0) ⟨#[], args, []⟩).memory :=
  laidMetH_of_parts3 (fuel := 8) (laidMet_of_run' 8 (by kernel_rfl) (by kernel_rfl)) (by kernel_rfl) (by kernel_rfl)

/-- what the condition gives: the table's cells -/
theorem tab_of_laid {W : World} (h : laidMetH Tryz.prog lst W) : Bm.Tab W := by
  rw [MakeChecks.laidMetH_plain _ _ _ (by kernel_rfl)] at h
  obtain ⟨ps, ⟨g0, t0, cs0, f0, p0, q0, hg0, ht0, hv0, hd0, _⟩, _, _⟩ := h
  obtain rfl := Option.some.inj (tab_global.symm.trans hg0)
  obtain rfl := Option.some.inj (tab_type.symm.trans ht0)
  obtain ⟨xs, m1, rfl, hx1, hlen, hn, hel⟩ := DataW.trod_array Tryz.underlying195 hd0
  rw [tab_datum] at hx1
  injection hx1 with hx1 _
  injection hx1 with hx1
  intro j hj
  rw [World.var?_cell hg0 hv0 j]
  have hj' : j < xs.length := by omega
  have he := hel j hj
  rw [List.getElem?_eq_getElem hj', tab_cells, Nat.mul_one] at he
  obtain ⟨k, e1, e2, _⟩ := DataW.trod_int Tryz.underlying5 he
  have hk := congrArg (·[j]?) hx1
  have hjd : j < Lib.deBruijn64tab.length := hj
  simp only [List.getElem?_map, List.getElem?_eq_getElem hj', List.getElem?_eq_getElem hjd, Option.map_some, e2, Option.some.injEq, DataW.lit.injEq, Lit.int.injEq, true_and] at hk
  have hc := congrArg (·[0]?) e1
  simp only [List.getElem?_take, List.getElem?_drop, Nat.add_zero, Nat.lt_one_iff, if_true, List.getElem?_cons_zero] at hc
  rw [Array.getElem?_toList] at hc
  rw [hc, ← hk, List.getD_eq_getElem?_getD, List.getElem?_eq_getElem hjd]
  rfl
end Go.Proofs.YtilolepbfmcbgaaGreatDoor
