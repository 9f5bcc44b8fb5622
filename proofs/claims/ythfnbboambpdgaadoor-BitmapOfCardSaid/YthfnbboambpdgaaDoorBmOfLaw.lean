/- BitmapOf, walked. -/
import Derived.Test.YthfnbboambpdgaaDoorBmRefOf
namespace Go.Proofs.YthfnbboambpdgaaDoor
open Go.RowKit Go.MapKept
namespace Bm
open Pack (Wds Nts)

section
variable {w : World}
theorem of_nil (n : Int) (ad : Addr) (c : Nat) (l : List Nat) (h : Wds w (some ad) l) (hn : ¬ Ok n l) : Calls Tryd.prog 18 #[.int .i64 n, .slice (some ad) l.length c] w fun e w' => e = .returned (.tuple #[.pointer none, .int .i64 2]) ∧ w = w' := by
  by_cases h0 : n < 0 ∨ 65534 < n
  · exact of_far n _ _ c h0
  · obtain ⟨m, rfl⟩ := Int.eq_ofNat_of_zero_le (show 0 ≤ n by omega)
    by_cases h1 : l.length = (m + 63) / 64
    · exact of_bad m _ c l h (by omega) h1 (fun hg => hn ⟨by omega, by omega, by omega, by rwa [Int.toNat_natCast]⟩)
    · exact of_len m _ _ c (by omega) h1
theorem refOf_nil (q : Nat) (hq : q < w.heap.size) (n : Int) (A : Option Addr) (c : Nat) (l : List Nat) (h : Wds w A l) (hn : ¬ Ok n l) : Calls Tryd.prog 19 #[.int .i64 n, .slice A l.length c] w fun e w' => e = .returned (.tuple #[.slice none 0 0, .bool false]) ∧ Below w.heap.size w w' := by
  by_cases h0 : n < 0 ∨ 65534 < n
  · exact (refOf_far n A _ c h0).mono fun e w' ⟨he, hw⟩ => ⟨he, by subst hw; exact Below.refl _ _⟩
  · obtain ⟨m, rfl⟩ := Int.eq_ofNat_of_zero_le (show 0 ≤ n by omega)
    by_cases h1 : l.length = (m + 63) / 64
    · refine (refOf_any q m A c l h (by omega) h1 hq).mono fun e w' hx => ?_
      rcases hx with ⟨hg, _⟩ | ⟨_, he, hb⟩
      · exact absurd (⟨by omega, by omega, by omega, by rwa [Int.toNat_natCast]⟩ : Ok (m : Int) l) hn
      · exact ⟨he, hb⟩
    · exact (refOf_len m A _ c (by omega) h1).mono fun e w' ⟨he, hw⟩ => ⟨he, by subst hw; exact Below.refl _ _⟩

set_option maxRecDepth 100000 in
set_option maxHeartbeats 1000000 in
theorem of_long (n : Int) (A : Option Addr) (c k : Nat) (hk : k ≤ 9223372036854775807) (h20 : ¬ k ≤ 20) (hT : Tab w) :
    Calls Tryd.prog 4 #[.int .i64 n, .slice A k c] w fun r w' => r = .returned (.bool true) ∧ Below w.heap.size w w' := by
  have hlt := hT.lt
  have HT := Lib.hid hT
  have h2 : (20 : Int) < (k : Int) := by omega
  clear hT
  go_enter Tryd.func4, Tryd.ntmps4
  go_wp2_with fail
  refine (lives_any _ HT.out).mono ?_
  rintro e w1 ⟨rfl, hb⟩
  have HB := Lib.hid hb
  have HT1 := Lib.hid (HT.out.below hb hlt)
  clear hb
  go_wp2_with fail
  refine (lives_any _ HT1.out).mono ?_
  rintro e w2 ⟨rfl, hb⟩
  have HB2 := Lib.hid (HB.out.trans (hb.mono HB.out.size))
  clear hb
  go_wp2
  go_ret
  exact ⟨rfl, HB2.out⟩

theorem row_getD {W : World} {g : Nat} {l : List Nat} (h : Row W g 45 l.length (fun k => .int .u64 ((l.getD k 0 : Nat) : Int))) (hu : ∀ x ∈ l, x < 18446744073709551616) (hl : l.length ≤ 9223372036854775807) : Wds W (some ⟨g, 0, none⟩) l :=
  ⟨hu, hl, fun j hj => ⟨g, 0, rfl, h.lt, by
    rw [Nat.zero_add, h.cell hj, List.getD_eq_getElem?_getD, List.getElem?_eq_getElem hj, Option.getD_some]⟩⟩

set_option maxRecDepth 100000 in
set_option maxHeartbeats 2000000 in
theorem of_none (n : Int) (A : Option Addr) (c : Nat) (l : List Nat) (hl : Wds w A l) (hA : A = none → c = 0) (hT : Tab w) (h20 : l.length ≤ 20) (hok : ¬ Ok n l) :
    Calls Tryd.prog 4 #[.int .i64 n, .slice A l.length c] w fun r w' => r = .returned (.bool true) ∧ Below w.heap.size w w' := by
  have HT := Lib.hid hT
  have HL := Lib.hid hl
  have hn2 : ¬ (20 : Int) < (l.length : Int) := by omega
  have HA := Lib.hid hA
  have HOK := Lib.hid hok
  clear hT hl hA hok
  go_enter Tryd.func4, Tryd.ntmps4
  go_wp2_with fail
  refine (lives_any _ HT.out).mono ?_
  rintro e w1 ⟨rfl, hb⟩
  have HB := Lib.hid hb
  have hs1 := hb.size
  clear hb
  obtain ⟨g, gc, w2, hap, hgc, hg, hrow, hb2⟩ := copy_row c (HL.out.keep HB.out) HA.out (by omega)
  have HAP := Lib.hid hap
  have HR := Lib.hid hrow
  have HB2 := Lib.hid (HB.out.trans (hb2.mono HB.out.size))
  have hglt := hrow.lt
  have hs2 := hb2.size
  clear hap hrow hb2 hgc
  go_wp2_with (at_builtin; refine wpList_append_run rfl (.tmp 19) (.tmp 20) 40 rfl _ _ _ rfl rfl HAP.out ?_)
  refine (of_nil n ⟨g, 0, none⟩ gc l (row_getD HR.out HL.out.u64 (by omega)) HOK.out).mono ?_
  rintro e w2' ⟨rfl, rfl⟩
  go_wp2_with fail
  refine (refOf_nil g hglt n A c l (HL.out.keep HB2.out) HOK.out).mono ?_
  rintro e w3 ⟨rfl, hb3⟩
  have HR3 := Lib.hid (HR.out.of_block (hb3.block _ hglt))
  have HB3 := Lib.hid (HB2.out.trans (hb3.mono HB2.out.size))
  clear hb3
  go_wp2_with fail
  go_loopw [54] (fun i wr => ∃ (k : Nat) (h : Nat → Int), k ≤ l.length ∧ i = .int .i64 (k : Int) ∧ Row wr g 45 l.length (fun j => .int .u64 (h j)) ∧ Chg g w3 wr) (fun i _ => l.length - (intOf i).toNat)
  case atStart => exact ⟨0, fun k => ((l.getD k 0 : Nat) : Int), Nat.zero_le _, rfl, HR3.out, Chg.refl _ _⟩
  case round =>
    obtain ⟨k, h, hk, rfl, hrow, hc⟩ := hrel
    by_cases hlt : k < l.length
    · have hcell := hrow.cell hlt
      have hfz := hrow.frozen k
      have HRN := Lib.hid ((hrow.set k (.int .u64 (IntKind.u64.wrap (h k + 1)))).congr (g := fun j => .int .u64 (if j = k then IntKind.u64.wrap (h k + 1) else h j)) (fun j _ => by
        by_cases e : j = k
        · subst e; simp
        · simp [e]))
      have HCN := Lib.hid (hc.setCell (p := ⟨g, k, none⟩) rfl (.int .u64 (IntKind.u64.wrap (h k + 1))))
      have hi0 : (0 : Int) ≤ (k : Int) := by omega
      have hi1 : (k : Int) < (l.length : Int) := by omega
      clear hrow hc
      generalize h k = x at *
      generalize hz : IntKind.u64.wrap (x + 1) = z at *
      go_wp2
      exact ⟨⟨k + 1, _, by omega, by go_num, HRN.out, HCN.out⟩, by simp [intOf]; omega⟩
    · obtain rfl : k = l.length := by omega
      have HCH := Lib.hid hc
      clear hrow hc
      go_wp2
      go_ret
      exact ⟨rfl, HB3.out.trans (HCH.out.below HB3.out.size (by omega))⟩

set_option maxRecDepth 100000 in
set_option maxHeartbeats 2000000 in
theorem of_some (n : Int) (A : Option Addr) (c : Nat) (l : List Nat) (hl : Wds w A l) (hA : A = none → c = 0) (hT : Tab w) (h20 : l.length ≤ 20) (hok : Ok n l) :
    Calls Tryd.prog 4 #[.int .i64 n, .slice A l.length c] w fun r w' => r = .returned (.bool true) ∧ Below w.heap.size w w' := by
  have HT := Lib.hid hT
  have HL := Lib.hid hl
  have hn2 : ¬ (20 : Int) < (l.length : Int) := by omega
  have HA := Lib.hid hA
  have HOK := Lib.hid hok
  clear hT hl hA hok
  go_enter Tryd.func4, Tryd.ntmps4
  go_wp2_with fail
  refine (lives_any _ HT.out).mono ?_
  rintro e w1 ⟨rfl, hb⟩
  have HB := Lib.hid hb
  have hs1 := hb.size
  clear hb
  obtain ⟨g, gc, w2, hap, hgc, hg, hrow, hb2⟩ := copy_row c (HL.out.keep HB.out) HA.out (by omega)
  have HAP := Lib.hid hap
  have HR := Lib.hid hrow
  have HB2 := Lib.hid (HB.out.trans (hb2.mono HB.out.size))
  have hglt := hrow.lt
  have hs2 := hb2.size
  clear hap hrow hb2 hgc
  go_wp2_with (at_builtin; refine wpList_append_run rfl (.tmp 19) (.tmp 20) 40 rfl _ _ _ rfl rfl HAP.out ?_)
  obtain ⟨m, rfl⟩ := Int.eq_ofNat_of_zero_le HOK.out.1
  have hm := HOK.out.2.1
  have hlm := HOK.out.2.2.1
  have HG := Lib.hid (show Good m l by have := HOK.out.2.2.2; rwa [Int.toNat_natCast] at this)
  refine (of_yes m ⟨g, 0, none⟩ gc l (row_getD HR.out HL.out.u64 (by omega)) (by omega) (by omega) HG.out).mono ?_
  rintro e w2' ⟨p, q, C, rfl, hp, hq, hM, hbb⟩
  have HM := Lib.hid hM
  have HR2 := Lib.hid (HR.out.of_block (hbb.block _ hglt))
  have HB2b := Lib.hid (HB2.out.trans (hbb.mono HB2.out.size))
  have hgl2 := HR2.out.lt
  have hpg : p ≠ g := by omega
  have hqg : q ≠ g := by omega
  have HRF := Lib.hid (refOf_any g m A c l (HL.out.keep HB2b.out) (by omega) (by omega) hgl2)
  clear hM hbb hlm
  go_wp2_with fail
  refine HRF.out.mono ?_
  rintro e w3 hx
  rcases hx with ⟨_, A2, c2, rfl, hbl, hb3⟩ | ⟨hng, _⟩
  · have HR3 := Lib.hid (HR2.out.of_block (hb3.block _ hgl2))
    have HB3 := Lib.hid (HB2b.out.trans (hb3.mono HB2b.out.size))
    have HBL := Lib.hid hbl
    have HM3 := Lib.hid (HM.out.keep hb3)
    clear hb3 hbl
    go_wp2_with fail
    go_loopw [54] (fun i wr => ∃ (k : Nat) (h : Nat → Int), k ≤ l.length ∧ i = .int .i64 (k : Int) ∧ Row wr g 45 l.length (fun j => .int .u64 (h j)) ∧ Chg g w3 wr) (fun i _ => l.length - (intOf i).toNat)
    case atStart => exact ⟨0, fun k => ((l.getD k 0 : Nat) : Int), Nat.zero_le _, rfl, HR3.out, Chg.refl _ _⟩
    case round =>
      obtain ⟨k, h, hk, rfl, hrow, hc⟩ := hrel
      by_cases hlt : k < l.length
      · have hcell := hrow.cell hlt
        have hfz := hrow.frozen k
        have HRN := Lib.hid ((hrow.set k (.int .u64 (IntKind.u64.wrap (h k + 1)))).congr (g := fun j => .int .u64 (if j = k then IntKind.u64.wrap (h k + 1) else h j)) (fun j _ => by
          by_cases e : j = k
          · subst e; simp
          · simp [e]))
        have HCN := Lib.hid (hc.setCell (p := ⟨g, k, none⟩) rfl (.int .u64 (IntKind.u64.wrap (h k + 1))))
        have hi0 : (0 : Int) ≤ (k : Int) := by omega
        have hi1 : (k : Int) < (l.length : Int) := by omega
        clear hrow hc
        generalize h k = x at *
        generalize hz : IntKind.u64.wrap (x + 1) = z at *
        go_wp2
        exact ⟨⟨k + 1, _, by omega, by go_num, HRN.out, HCN.out⟩, by simp [intOf]; omega⟩
      · obtain rfl : k = l.length := by omega
        have HCH := Lib.hid hc
        clear hrow hc
        have HM4 := Lib.hid (HM3.out.chg HCH.out hpg hqg)
        have HBL4 := Lib.hid (HBL.out.chg HCH.out)
        have HB4 := Lib.hid (HB3.out.trans (HCH.out.below HB3.out.size (by omega)))
        go_wp2_with fail
        refine (lawSame_any HM4.out A2 c2 HBL4.out).mono ?_
        rintro e w5 ⟨rfl, hb5⟩
        have HM5 := Lib.hid (HM4.out.keep hb5)
        have HB5 := Lib.hid (HB4.out.trans (hb5.mono HB4.out.size))
        clear hb5
        go_wp2_with fail
        refine (words_any HM5.out).mono ?_
        rintro e w6 ⟨g6, gc6, rfl, _, _, hrow6, hb6⟩
        have HB6 := Lib.hid (HB5.out.trans (hb6.mono HB5.out.size))
        have hw6 := hrow6.wds (by omega)
        rw [HG.out.wds HL.out.u64] at hw6
        have hsm := Pack.same_any (w := w6) (some ⟨g6, 0, none⟩) A gc6 c l l hw6 (HL.out.keep HB6.out)
        rw [decide_eq_true rfl] at hsm
        have HSM := Lib.hid hsm
        clear hrow6 hb6 hw6 hsm
        go_wp2_with fail
        refine HSM.out.mono ?_
        rintro e w7 ⟨rfl, k7, hw7⟩
        have HB7 := Lib.hid (show Below w.heap.size w w7 by rw [hw7]; exact below_drewN HB6.out k7)
        clear hw7
        go_wp2
        go_ret
        exact ⟨rfl, HB7.out⟩
  · exact absurd HG.out hng

theorem of_law (n : Int) (A : Option Addr) (c : Nat) (l : List Nat) (hl : Wds w A l) (hA : A = none → c = 0) (hT : Tab w) :
    Calls Tryd.prog 4 #[.int .i64 n, .slice A l.length c] w fun r w' => r = .returned (.bool true) ∧ Below w.heap.size w w' := by
  by_cases h20 : l.length ≤ 20
  · by_cases hok : Ok n l
    · exact of_some n A c l hl hA hT h20 hok
    · exact of_none n A c l hl hA hT h20 hok
  · exact of_long n A c l.length hl.len h20 hT
end
end Bm
end Go.Proofs.YthfnbboambpdgaaDoor
