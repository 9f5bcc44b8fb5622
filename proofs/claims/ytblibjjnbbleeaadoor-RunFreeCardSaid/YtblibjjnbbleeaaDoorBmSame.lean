/- Whether a map is the document's: it is, where both have the same blocks; the chapter's example. -/
import Derived.Test.YtblibjjnbbleeaaDoorBmRefW
namespace Go.Proofs.YtblibjjnbbleeaaDoor
open Go.RowKit Go.MapKept
namespace Bm
open Pack (Wds Nts)

theorem below_drewN {B : Nat} {a w : World} (h : Below B a w) (n : Nat) : Below B a (w.drewN n) := ⟨h.os, h.tape, h.output, h.size, h.block⟩
theorem Bls.drewN {w : World} {q n : Nat} {A : Option Addr} {f : Nat → Bool} (h : Bls w q A n f) (k : Nat) : Bls (w.drewN k) q A n f := ⟨h.at'⟩

section
variable {w : World} {p q r K C n : Nat} {f : Nat → Bool}
set_option maxRecDepth 100000 in
set_option maxHeartbeats 2000000 in
theorem lawSame_any (h : Mp w p q K C n f) (A : Option Addr) (c : Nat) (hB : Bls w r A n f) : Calls Tryd.prog 18 #[.pointer (some ⟨p, 0, none⟩), .slice A n c] w fun e w' => e = .returned (.bool true) ∧ Below w.heap.size w w' := by
  have hmx := h.max
  have hkk := h.kk
  have H := Lib.hid h
  have HBL := Lib.hid hB
  clear h hB
  go_enter Tryd.func18, Tryd.ntmps18
  go_wp2
  go_loopw [5] (fun i wr => ∃ (b : Int) (k : Nat), -1 ≤ b ∧ b ≤ (n : Int) + 1 ∧ i = .int .i64 b ∧ wr = w.drewN k) (fun i _ => (n + 1 - intOf i).toNat)
  case atStart => exact ⟨-1, 0, by omega, by omega, rfl, rfl⟩
  case round =>
    obtain ⟨b, k, hb1, hb2, rfl, hwr⟩ := hrel
    have HM := Lib.hid (hwr ▸ H.out.drewN k : Mp wr p q K C n f)
    have HL := Lib.hid (hwr ▸ HBL.out.drewN k : Bls wr r A n f)
    have HW := Lib.hid hwr
    clear hwr
    by_cases hle : b ≤ (n : Int)
    · have HH := Lib.hid (has_any HM.out b)
      by_cases h0 : b < 0
      · have hx : hs f b = false := by unfold hs; rw [decide_eq_false (by omega)]; rfl
        rw [hx] at HH
        clear hx
        go_wp2_with fail
        refine HH.out.mono ?_
        rintro e w' ⟨rfl, kk, rfl⟩
        go_wp2
        exact ⟨⟨b + 1, k + kk, by omega, by omega, rfl, by rw [HW.out, World.drewN_drewN]⟩, by simp [intOf]; omega⟩
      · obtain ⟨d, rfl⟩ := Int.eq_ofNat_of_zero_le (show 0 ≤ b by omega)
        rw [hs_nat] at HH
        have hd0 : (0 : Int) ≤ (d : Int) := by omega
        clear h0 hb1
        by_cases hd : d < n
        · obtain ⟨bb, o, rfl, hlt, _, hcell⟩ := HL.out.at' d hd
          have hd1 : (d : Int) < (n : Int) := by omega
          have hcc : ∀ kk, (wr.drewN kk).cell? ⟨bb, o + d, none⟩ = some (.bool (f d)) := fun kk => hcell
          have HCC := Lib.hid hcc
          clear hcell hcc
          generalize f d = v at *
          go_wp2_with fail
          refine HH.out.mono ?_
          rintro e w' ⟨rfl, kk, hkk'⟩
          have hcell := HCC.out kk
          rw [← hkk'] at hcell
          have HK := Lib.hid hkk'
          clear hkk'
          cases v <;>
          · go_wp2
            exact ⟨⟨(d : Int) + 1, k + kk, by omega, by omega, rfl, by rw [HK.out, HW.out, World.drewN_drewN]⟩, by simp [intOf]; omega⟩
        · have hd1 : ¬ (d : Int) < (n : Int) := by omega
          rw [H.out.far d (by omega)] at HH
          go_wp2_with fail
          refine HH.out.mono ?_
          rintro e w' ⟨rfl, kk, hkk'⟩
          have HK := Lib.hid hkk'
          clear hkk'
          go_wp2
          exact ⟨⟨(d : Int) + 1, k + kk, by omega, by omega, rfl, by rw [HK.out, HW.out, World.drewN_drewN]⟩, by simp [intOf]; omega⟩
    · have HLEN := Lib.hid (len_any HM.out)
      have HCNT := Lib.hid (count_any HM.out)
      have HRC := Lib.hid (refCount_any A c HL.out hmx)
      have HFR := Lib.hid (free_any HM.out)
      have hcl := cnt_le f n
      have HRC2 := Lib.hid (fun w' hb => refCount_any A c (HL.out.keep (w' := w') hb) hmx)
      have HSM := Lib.hid (fun (w' : World) (G1 : Nat) (G2 : Nat) (c1 c2 : Nat) (h1 : Row w' G1 68 K (fun k => .int .u64 (wd f k : Int))) (h2 : Row w' G2 68 K (fun k => .int .u64 (wd f k : Int))) =>
        show Calls Tryd.prog 37 #[.slice (some ⟨G1, 0, none⟩) K c1, .slice (some ⟨G2, 0, none⟩) K c2] w' fun e w'' => e = .returned (.bool true) ∧ ∃ n, w'' = w'.drewN n by
          have := Pack.same_any (w := w') (some ⟨G1, 0, none⟩) (some ⟨G2, 0, none⟩) c1 c2 (wds f K) (wds f K) (h1.wds (by omega)) (h2.wds (by omega))
          rw [wds_len, decide_eq_true rfl] at this
          exact this)
      have HWD := Lib.hid (fun w' (hb : Below wr.heap.size wr w') => words_any (HM.out.keep hb))
      have HRW := Lib.hid (fun w' (hb : Below wr.heap.size wr w') => refWords_any A c K (HL.out.keep hb) hmx HM.out.far HM.out.hK)
      generalize cnt f n = v at *
      obtain ⟨u, hu⟩ : ∃ u : Nat, u = n - v := ⟨_, rfl⟩
      rw [← hu] at HFR
      have hsub : (n : Int) - (v : Int) = (u : Int) := by omega
      clear hu
      go_wp2_with fail
      refine HLEN.out.mono ?_
      rintro e w' ⟨rfl, rfl⟩
      go_wp2_with fail
      refine HCNT.out.mono ?_
      rintro e w' ⟨rfl, rfl⟩
      go_wp2_with fail
      refine HRC.out.mono ?_
      rintro e w' ⟨rfl, rfl⟩
      go_wp2_with fail
      refine HFR.out.mono ?_
      rintro e w' ⟨rfl, kk, hkk'⟩
      have HB1 := Lib.hid (show Below wr.heap.size wr w' by rw [hkk']; exact below_drewN (Below.refl _ _) kk)
      clear hkk'
      go_wp2_with fail
      refine (HRC2.out _ HB1.out).mono ?_
      rintro e w2 ⟨rfl, rfl⟩
      go_wp2_with fail
      refine (HWD.out _ HB1.out).mono ?_
      rintro e w2 ⟨g, gc, rfl, _, hg, hrow, hbel⟩
      have HB2 := Lib.hid (HB1.out.trans (hbel.mono HB1.out.size))
      have HR1 := Lib.hid hrow
      clear hbel hrow hg
      go_wp2_with fail
      refine (HRW.out _ HB2.out).mono ?_
      rintro e w3 ⟨rfl, hrow, hbel⟩
      have HB3 := Lib.hid (HB2.out.trans (hbel.mono HB2.out.size))
      have HR2 := Lib.hid (HR1.out.of_block (hbel.block _ HR1.out.lt))
      have HR3 := Lib.hid hrow
      clear hbel hrow
      go_wp2_with fail
      refine (HSM.out _ _ _ _ _ HR2.out HR3.out).mono ?_
      rintro e w4 ⟨rfl, k4, rfl⟩
      go_wp2
      go_ret
      refine ⟨rfl, below_drewN ?_ k4⟩
      have := HB3.out
      rw [HW.out] at this
      exact ⟨this.os, this.tape, this.output, this.size, this.block⟩

/-! The example. -/
theorem nts_cells (w : World) (l : List Int) (hb : ∀ x ∈ l, -9223372036854775808 ≤ x ∧ x ≤ 9223372036854775807) (hl : l.length ≤ 1000) (hq : q < w.heap.size) : ∀ w', Chg q (w.alloc (.cells (l.map (Value.int .i64)).toArray 3)) w' → Nts w' (some ⟨w.heap.size, 0, none⟩) l := fun w' hc =>
  ⟨hb, by omega, fun j hj => by
    refine ⟨w.heap.size, 0, rfl, Nat.lt_of_lt_of_le (by simp) hc.size, ?_⟩
    rw [hc.cell (p := ⟨w.heap.size, 0 + j, none⟩) (by simp) (by simp; omega)]
    refine (Pack.alloc_cell _ _ _ _).trans ?_
    simp [hj]⟩
theorem wds_cells (w : World) : Wds (w.alloc (.cells #[.int .u64 1, .int .u64 2] 68)) (some ⟨w.heap.size, 0, none⟩) [1, 2] :=
  ⟨fun x hx => by
    have : x = 1 ∨ x = 2 := by simpa using hx
    omega, by decide, fun j hj => by
    have : j < 2 := hj
    match j, this with
    | 0, _ => exact ⟨w.heap.size, 0, rfl, by simp, Pack.alloc_cell _ _ _ _⟩
    | 1, _ => exact ⟨w.heap.size, 0, rfl, by simp, Pack.alloc_cell _ _ _ _⟩⟩
def ex : Nat → Bool := (tn 70 true (fun _ => false) [0, 65, 70]).1
theorem ex_two : (tn 70 true (fun _ => false) [0, 65, 70]).2 = 2 := by decide +kernel
theorem ex_words : wds ex 2 = [1, 2] := by decide +kernel
theorem ex_next : next ex true 70 1 = 65 := by decide +kernel
theorem ex_free : next ex false 70 0 = 1 := by decide +kernel

set_option maxRecDepth 100000 in
set_option maxHeartbeats 2000000 in
theorem lives_any (w : World) (hT : Tab w) : Calls Tryd.prog 28 #[] w fun e w' => e = .returned (.bool true) ∧ Below w.heap.size w w' := by
  have hlt := hT.lt
  have HT := Lib.hid hT
  have HN := Lib.hid (new_any 70 70 2 (by decide) (by decide) w)
  have HPL := Lib.hid (fun w => Pack.lives_any w)
  clear hT
  go_enter Tryd.func28, Tryd.ntmps28
  go_wp2_with fail
  refine HN.out.mono ?_
  rintro e w1 ⟨rfl, hM, hb1⟩
  have HM := Lib.hid hM
  have HB := Lib.hid hb1
  clear hM hb1
  go_wp2_with fail
  refine (HPL.out _).mono ?_
  rintro e w2 ⟨rfl, hb2⟩
  have HM2 := Lib.hid (HM.out.keep hb2)
  have HB2 := Lib.hid (HB.out.trans (hb2.mono HB.out.size))
  have hsz : w.heap.size < w2.heap.size := HM2.out.row.lt
  clear hb2
  have hmA := HM2.out.keep ((Below.refl _ _).alloc (Nat.le_refl _) (.cells #[.int .i64 0, .int .i64 65, .int .i64 70] 3))
  have hput := put_any hmA (some ⟨w2.heap.size, 0, none⟩) 3 [0, 65, 70] (nts_cells w2 [0, 65, 70] (by intro x hx; simp at hx; omega) (by decide) HM2.out.row.lt)
  rw [ex_two] at hput
  have HP := Lib.hid (show Calls Tryd.prog 25 #[.pointer (some ⟨w.heap.size + 1, 0, none⟩), .slice (some ⟨w2.heap.size, 0, none⟩) 3 3] (w2.alloc (.cells #[.int .i64 0, .int .i64 65, .int .i64 70] 3)) fun e w' => e = .returned (.int .i64 2) ∧ Mp w' (w.heap.size + 1) w.heap.size 2 2 70 ex ∧ Chg w.heap.size (w2.alloc (.cells #[.int .i64 0, .int .i64 65, .int .i64 70] 3)) w' from hput)
  clear hmA hput
  go_wp2_with fail
  refine HP.out.mono ?_
  rintro e w3 ⟨rfl, hM3, hC3⟩
  have HM3 := Lib.hid hM3
  have HC3 := Lib.hid (((Chg.refl w.heap.size w2).alloc _).trans hC3)
  have HB3 := Lib.hid (HB2.out.trans (HC3.out.below (Nat.le_of_lt hsz) (Nat.le_refl _)))
  clear hM3 hC3
  go_wp2_with fail
  refine (words_any HM3.out).mono ?_
  rintro e w4 ⟨g, gc, rfl, _, hg, hrow, hb4⟩
  have HM4 := Lib.hid (HM3.out.keep hb4)
  have HB4 := Lib.hid (HB3.out.trans (hb4.mono HB3.out.size))
  have hwd := hrow.wds (by decide)
  rw [ex_words] at hwd
  have hba := (Below.refl w4.heap.size w4).alloc (Nat.le_refl _) (.cells #[.int .u64 1, .int .u64 2] 68)
  have hsm := Pack.same_any (some ⟨g, 0, none⟩) (some ⟨w4.heap.size, 0, none⟩) gc 2 [1, 2] [1, 2] (hwd.keep hba) (wds_cells w4)
  rw [decide_eq_true rfl] at hsm
  have HSM := Lib.hid (show Calls Tryd.prog 37 #[.slice (some ⟨g, 0, none⟩) 2 gc, .slice (some ⟨w4.heap.size, 0, none⟩) 2 2] (w4.alloc (.cells #[.int .u64 1, .int .u64 2] 68)) fun e w' => e = .returned (.bool true) ∧ ∃ n, w' = (w4.alloc (.cells #[.int .u64 1, .int .u64 2] 68)).drewN n from hsm)
  have HBA := Lib.hid hba
  clear hg hrow hb4 hwd hsm hba
  go_wp2_with fail
  refine HSM.out.mono ?_
  rintro e w5 ⟨rfl, k5, hw5⟩
  have hb5 : Below w4.heap.size w4 w5 := by rw [hw5]; exact below_drewN HBA.out k5
  have HM5 := Lib.hid (HM4.out.keep hb5)
  have HB5 := Lib.hid (HB4.out.trans (hb5.mono HB4.out.size))
  have hT5 := HT.out.below HB5.out hlt
  have hn1 := next_any HM5.out hT5 1 true (by decide)
  have hn2 := next_any HM5.out hT5 0 false (by decide)
  rw [show (1 : Int).toNat = 1 from rfl, ex_next] at hn1
  rw [show (0 : Int).toNat = 0 from rfl, ex_free] at hn2
  have HN1 := Lib.hid hn1
  have HN2 := Lib.hid hn2
  clear hw5 hb5 hT5 hn1 hn2
  go_wp2_with fail
  refine HN1.out.mono ?_
  rintro e w6 ⟨rfl, rfl⟩
  go_wp2_with fail
  refine HN2.out.mono ?_
  rintro e w6 ⟨rfl, rfl⟩
  go_wp2
  go_ret
  exact ⟨rfl, HB5.out⟩
end
end Bm
end Go.Proofs.YtblibjjnbbleeaaDoor
