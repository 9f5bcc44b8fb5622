/- BitmapCopies, walked. -/
import Derived.Test.YthfnbboambpdgaaDoorBmSame
namespace Go.Proofs.YthfnbboambpdgaaDoor
open Go.RowKit Go.MapKept
namespace Bm
open Pack (Wds Nts)

section
variable {w : World} {p q K C n : Nat} {f : Nat → Bool}
/-- two maps of the same blocks are the same -/
theorem same_yes {p' q' C' : Nat} (h : Mp w p q K C n f) (h' : Mp w p' q' K C' n f) :
    Calls Tryd.prog 23 #[.pointer (some ⟨p, 0, none⟩), .pointer (some ⟨p', 0, none⟩)] w fun e w' => e = .returned (.bool true) ∧ ∃ k, w' = w.drewN k := by
  have := same_any h h'
  rwa [decide_eq_true rfl] at this
theorem same_no {p' q' C' : Nat} {g : Nat → Bool} (h : Mp w p q K C n f) (h' : Mp w p' q' K C' n g) (hne : f ≠ g) :
    Calls Tryd.prog 23 #[.pointer (some ⟨p, 0, none⟩), .pointer (some ⟨p', 0, none⟩)] w fun e w' => e = .returned (.bool false) ∧ ∃ k, w' = w.drewN k := by
  have := same_any h h'
  rwa [decide_eq_false (fun e => hne ((wds_eq h.far h'.far h.kk.2).1 e))] at this
theorem upd_back {b : Nat} {v : Bool} (h : f b = v) (u : Bool) : upd (upd f b u) b v = f := by
  funext x
  unfold upd
  by_cases e : x = b
  · subst e; rw [if_pos rfl, h]
  · rw [if_neg e, if_neg e]

set_option maxRecDepth 100000 in
set_option maxHeartbeats 1000000 in
theorem copies_long (n : Int) (A : Option Addr) (c k : Nat) (b : Int) (hk : k ≤ 9223372036854775807) (h60 : ¬ k ≤ 60) (hT : Tab w) :
    Calls Tryd.prog 5 #[.int .u16 n, .slice A k c, .int .i64 b] w fun r w' => r = .returned (.bool true) ∧ Below w.heap.size w w' := by
  have hlt := hT.lt
  have HT := Lib.hid hT
  have h2 : (60 : Int) < (k : Int) := by omega
  clear hT
  go_enter Tryd.func5, Tryd.ntmps5
  go_wp2_with fail
  refine (lives_any _ HT.out).mono ?_
  rintro e w1 ⟨rfl, hb⟩
  have HB := Lib.hid hb
  have HT1 := Lib.hid (HT.out.below hb hlt)
  clear hb
  go_wp2_with fail
  refine (lives_any _ HT1.out).mono ?_
  rintro e w2 ⟨rfl, hb⟩
  have HB2 := Lib.hid (HB.out.trans (hb.mono HB.out.size))
  clear hb
  go_wp2
  go_ret
  exact ⟨rfl, HB2.out⟩

/-- two maps, both of the call's own, with all below B as it was -/
structure Two (w0 : World) (B p q p' q' K C C' n : Nat) (f g : Nat → Bool) (w : World) : Prop where
  one : Mp w p q K C n f
  two : Mp w p' q' K C' n g
  below : Below B w0 w
  hB : B ≤ w.heap.size
  bq : B ≤ q'
  ne : p ≠ q' ∧ q ≠ q'
theorem Two.keep {w0 w w' : World} {B p q p' q' K C C' n : Nat} {f g : Nat → Bool} (h : Two w0 B p q p' q' K C C' n f g w) (hb : Below w.heap.size w w') : Two w0 B p q p' q' K C C' n f g w' :=
  ⟨h.one.keep hb, h.two.keep hb, h.below.trans (hb.mono h.hB), Nat.le_trans h.hB hb.size, h.bq, h.ne⟩
theorem Two.drewN {w0 w : World} {B p q p' q' K C C' n : Nat} {f g : Nat → Bool} (h : Two w0 B p q p' q' K C C' n f g w) (k : Nat) : Two w0 B p q p' q' K C C' n f g (w.drewN k) :=
  h.keep (below_drewN (Below.refl _ _) k)
theorem Two.chg {w0 w w' : World} {B p q p' q' K C C' n : Nat} {f g g' : Nat → Bool} (h : Two w0 B p q p' q' K C C' n f g w) (hc : Chg q' w w') (hM : Mp w' p' q' K C' n g') : Two w0 B p q p' q' K C C' n f g' w' :=
  ⟨h.one.chg hc h.ne.1 h.ne.2, hM, h.below.trans (hc.below h.hB h.bq), Nat.le_trans h.hB hc.size, h.bq, h.ne⟩

set_option maxRecDepth 100000 in
set_option maxHeartbeats 4000000 in
theorem copies_law (n : Nat) (A : Option Addr) (c : Nat) (l : List Int) (b : Int) (hl : Nts w A l) (hb1 : -9223372036854775808 ≤ b) (hb2 : b ≤ 9223372036854775807) (hT : Tab w) :
    Calls Tryd.prog 5 #[.int .u16 (n : Int), .slice A l.length c, .int .i64 b] w fun r w' => r = .returned (.bool true) ∧ Below w.heap.size w w' := by
  by_cases h60 : l.length ≤ 60
  · have HT := Lib.hid hT
    have HL := Lib.hid hl
    obtain ⟨m, hm⟩ : ∃ m : Nat, m = n % 300 := ⟨_, rfl⟩
    have hn : (n : Int) % 300 = (m : Int) := by omega
    have hm3 : m < 300 := by omega
    have h2 : ¬ (60 : Int) < (l.length : Int) := by omega
    obtain ⟨K, hK⟩ : ∃ K : Nat, K = (m + 63) / 64 := ⟨_, rfl⟩
    have HN := Lib.hid (fun w => new_any (m : Int) m K (by omega) hK w)
    have HN1 := Lib.hid (fun w => new_any ((m : Int) + 1) (m + 1) ((m + 1 + 63) / 64) (by omega) rfl w)
    clear hT hl hm hK
    go_enter Tryd.func5, Tryd.ntmps5
    go_wp2_with fail
    refine (lives_any _ HT.out).mono ?_
    rintro e w1 ⟨rfl, hb⟩
    have HB := Lib.hid hb
    clear hb
    go_wp2_with fail
    refine (HN.out _).mono ?_
    rintro e w2 ⟨rfl, hM, hb⟩
    have HM := Lib.hid hM
    have HB2 := Lib.hid (HB.out.trans (hb.mono HB.out.size))
    have hs1 := HB.out.size
    have hs2 : w1.heap.size < w2.heap.size := hM.row.lt
    clear hb hM
    have HP := Lib.hid (put_any HM.out A c l (fun w' hc => HL.out.keep (HB2.out.trans (hc.below (by omega) hs1))))
    obtain ⟨f, hf⟩ : ∃ f, f = (tn m true (fun _ => false) l).1 := ⟨_, rfl⟩
    rw [← hf] at HP
    clear hf
    go_wp2_with fail
    refine HP.out.mono ?_
    rintro e w3 ⟨rfl, hM, hc⟩
    have HM3 := Lib.hid hM
    have HB3 := Lib.hid (HB2.out.trans (hc.below (by omega) hs1))
    have hs3 := hM.row.lt
    have hs4 := hM.lt
    clear hM hc
    go_wp2_with fail
    refine (copy_any HM3.out).mono ?_
    rintro e w4 ⟨p', q', C', rfl, hp', hq', hM4, hb4⟩
    have hs5 := HB3.out.size
    have HTW := Lib.hid (show Two w w.heap.size (w1.heap.size + 1) w1.heap.size p' q' K K C' m f f w4 from ⟨HM3.out.keep hb4, hM4, HB3.out.trans (hb4.mono hs5), Nat.le_trans hs5 hb4.size, by omega, by omega, by omega⟩)
    clear hM4 hb4 hp' hq' HM3 HB3 HM HB2 HB HP
    go_wp2_with fail
    refine (same_yes HTW.out.two HTW.out.one).mono ?_
    rintro e w5 ⟨rfl, k5, hw5⟩
    have HT5 := Lib.hid (hw5 ▸ HTW.out.drewN k5 : Two w w.heap.size (w1.heap.size + 1) w1.heap.size p' q' K K C' m f f w5)
    clear hw5 HTW
    go_wp2_with fail
    refine (count_any HT5.out.two).mono ?_
    rintro e w6 ⟨rfl, rfl⟩
    go_wp2_with fail
    refine (count_any HT5.out.one).mono ?_
    rintro e w6 ⟨rfl, rfl⟩
    go_wp2_with fail
    refine (same_nils _).mono ?_
    rintro e w6 ⟨rfl, rfl⟩
    go_wp2_with fail
    refine (same_nil_left _ _).mono ?_
    rintro e w6 ⟨rfl, rfl⟩
    go_wp2_with fail
    refine (same_nil_right _ _).mono ?_
    rintro e w6 ⟨rfl, rfl⟩
    go_wp2_with fail
    refine (HN1.out _).mono ?_
    rintro e w6 ⟨rfl, hM6, hb6⟩
    have HM6 := Lib.hid hM6
    have HT6 := Lib.hid (HT5.out.keep hb6)
    clear hM6 hb6
    go_wp2_with fail
    refine (same_len HT6.out.one HM6.out (by omega)).mono ?_
    rintro e w7 ⟨rfl, k7, hw7⟩
    have HT7 := Lib.hid (hw7 ▸ HT6.out.drewN k7 : Two w w.heap.size (w1.heap.size + 1) w1.heap.size p' q' K K C' m f f w7)
    clear hw7 HT6 HM6 HT5
    go_wp2_with fail
    refine (has_any HT7.out.one b).mono ?_
    rintro e w8 ⟨rfl, k8, hw8⟩
    have HT8 := Lib.hid (hw8 ▸ HT7.out.drewN k8 : Two w w.heap.size (w1.heap.size + 1) w1.heap.size p' q' K K C' m f f w8)
    clear hw8 HT7
    have hpt := put1_any HT8.out.two b hb1 hb2 1
    by_cases hin : b < 0 ∨ (m : Int) ≤ b
    · have hx : hs f b = false := by
        unfold hs
        by_cases h0 : 0 ≤ b
        · rw [HT8.out.one.far b.toNat (by omega)]; simp
        · rw [decide_eq_false h0]; rfl
      have ht : ∀ is, trd m is f b = false := fun is => by unfold trd; rw [decide_eq_false (by omega)]; rfl
      have htn : ∀ is, trn m is f b = f := fun is => by unfold trn; rw [ht is]; rfl
      rw [hx, ht, htn] at *
      have HPT := Lib.hid hpt
      have HTN := Lib.hid htn
      have HTR := Lib.hid ht
      have hin1 : (b < 0) ∨ (0 ≤ b ∧ (m : Int) ≤ b) := by omega
      clear hpt htn ht hx hin
      go_wp2_with fail
      refine HPT.out.mono ?_
      rintro e w9 ⟨rfl, hM9, hc9⟩
      have HT9 := Lib.hid (HT8.out.chg hc9 hM9)
      clear hM9 hc9
      have hdr := drop1_any HT9.out.two b hb1 hb2 1
      rw [HTR.out, HTN.out] at hdr
      have HDR := Lib.hid hdr
      clear hdr
      go_wp2_with fail
      refine HDR.out.mono ?_
      rintro e w10 ⟨rfl, hM10, hc10⟩
      have HT10 := Lib.hid (HT9.out.chg hc10 hM10)
      clear hM10 hc10
      go_wp2_with fail
      refine (same_yes HT10.out.two HT10.out.one).mono ?_
      rintro e w11 ⟨rfl, k11, hw11⟩
      have HT11 := Lib.hid (hw11 ▸ HT10.out.drewN k11 : Two w w.heap.size (w1.heap.size + 1) w1.heap.size p' q' K K C' m f f w11)
      clear hw11
      rcases hin1 with h0 | ⟨h0, h1⟩
      · go_wp2
        go_ret
        exact ⟨rfl, HT11.out.below⟩
      · have h3 : decide (b < (m : Int)) = false := decide_eq_false (by omega)
        go_wp2_with fail
        refine (len_any HT11.out.one).mono ?_
        rintro e w12 ⟨rfl, rfl⟩
        go_wp2
        go_ret
        exact ⟨rfl, HT11.out.below⟩
    · obtain ⟨d, rfl⟩ := Int.eq_ofNat_of_zero_le (show 0 ≤ b by omega)
      have hd : d < m := by omega
      have hd0 : (0 : Int) ≤ (d : Int) := by omega
      have hd1 : (d : Int) < (m : Int) := by omega
      rw [hs_nat]
      rw [trn_in hd] at hpt
      cases hfd : f d with
      | false =>
        have ht1 : trd m true f (d : Int) = true := by unfold trd; rw [Int.toNat_natCast, hfd, decide_eq_true (by omega)]; rfl
        rw [ht1, if_pos rfl] at hpt
        have HPT := Lib.hid hpt
        have ht2 : trd m false (upd f d true) (d : Int) = true := by unfold trd; rw [Int.toNat_natCast, decide_eq_true (by omega)]; simp [upd]
        have HT2 := Lib.hid ht2
        have HUB := Lib.hid (upd_back hfd true)
        clear hpt ht1 ht2 hin hfd
        go_wp2_with fail
        refine HPT.out.mono ?_
        rintro e w9 ⟨rfl, hM9, hc9⟩
        have HT9 := Lib.hid (HT8.out.chg hc9 hM9)
        clear hM9 hc9
        have hdr := drop1_any HT9.out.two (d : Int) hb1 hb2 1
        rw [HT2.out, if_pos rfl, trn_in hd, HUB.out] at hdr
        have HDR := Lib.hid hdr
        clear hdr
        go_wp2_with fail
        refine HDR.out.mono ?_
        rintro e w10 ⟨rfl, hM10, hc10⟩
        have HT10 := Lib.hid (HT9.out.chg hc10 hM10)
        clear hM10 hc10
        go_wp2_with fail
        refine (same_yes HT10.out.two HT10.out.one).mono ?_
        rintro e w11 ⟨rfl, k11, hw11⟩
        have HT11 := Lib.hid (hw11 ▸ HT10.out.drewN k11 : Two w w.heap.size (w1.heap.size + 1) w1.heap.size p' q' K K C' m f f w11)
        clear hw11
        go_wp2_with fail
        refine (len_any HT11.out.one).mono ?_
        rintro e w12 ⟨rfl, rfl⟩
        go_wp2
        go_ret
        exact ⟨rfl, HT11.out.below⟩
      | true =>
        have ht1 : trd m true f (d : Int) = false := by unfold trd; rw [Int.toNat_natCast, hfd]; simp
        have hu1 : upd f d true = f := by
          funext x
          unfold upd
          split
          · rename_i e; rw [e, hfd]
          · rfl
        rw [ht1, if_neg (by simp), hu1] at hpt
        have HPT := Lib.hid hpt
        have ht2 : trd m false f (d : Int) = true := by unfold trd; rw [Int.toNat_natCast, hfd, decide_eq_true (by omega)]; rfl
        have HT2 := Lib.hid ht2
        have HUB := Lib.hid (upd_back hfd false)
        have hne : upd f d false ≠ f := fun e => by
          have := congrFun e d
          rw [hfd] at this
          simp [upd] at this
        have HNE := Lib.hid hne
        have ht3 : trd m true (upd f d false) (d : Int) = true := by unfold trd; rw [Int.toNat_natCast, decide_eq_true (by omega)]; simp [upd]
        have HT3 := Lib.hid ht3
        clear hpt ht1 ht2 ht3 hin hfd hu1 hne
        go_wp2_with fail
        refine HPT.out.mono ?_
        rintro e w9 ⟨rfl, hM9, hc9⟩
        have HT9 := Lib.hid (HT8.out.chg hc9 hM9)
        clear hM9 hc9
        have hdr := drop1_any HT9.out.two (d : Int) hb1 hb2 1
        rw [HT2.out, if_pos rfl, trn_in hd] at hdr
        have HDR := Lib.hid hdr
        clear hdr
        go_wp2_with fail
        refine HDR.out.mono ?_
        rintro e w10 ⟨rfl, hM10, hc10⟩
        have HT10 := Lib.hid (HT9.out.chg hc10 hM10)
        clear hM10 hc10
        go_wp2_with fail
        refine (same_no HT10.out.two HT10.out.one HNE.out).mono ?_
        rintro e w11 ⟨rfl, k11, hw11⟩
        have HT11 := Lib.hid (hw11 ▸ HT10.out.drewN k11 : Two w w.heap.size (w1.heap.size + 1) w1.heap.size p' q' K K C' m f (upd f d false) w11)
        clear hw11
        have hp2 := put1_any HT11.out.two (d : Int) hb1 hb2 1
        rw [HT3.out, if_pos rfl, trn_in hd, HUB.out] at hp2
        have HP2 := Lib.hid hp2
        clear hp2
        go_wp2_with fail
        refine HP2.out.mono ?_
        rintro e w12 ⟨rfl, hM12, hc12⟩
        have HT12 := Lib.hid (HT11.out.chg hc12 hM12)
        clear hM12 hc12
        go_wp2_with fail
        refine (same_yes HT12.out.two HT12.out.one).mono ?_
        rintro e w13 ⟨rfl, k13, hw13⟩
        have HT13 := Lib.hid (hw13 ▸ HT12.out.drewN k13 : Two w w.heap.size (w1.heap.size + 1) w1.heap.size p' q' K K C' m f f w13)
        clear hw13
        go_wp2
        go_ret
        exact ⟨rfl, HT13.out.below⟩
  · exact copies_long (n : Int) A c l.length b hl.len h60 hT
end
end Bm
end Go.Proofs.YthfnbboambpdgaaDoor
