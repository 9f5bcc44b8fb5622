/- Texts laid together: RunTake, RunLives. -/
import Derived.Test.YtilolepbfmcbgaaGreatDoorKa2
import Derived.Deep.DeepCutAuto
import Derived.Test.YtilolepbfmcbgaaGreatDoorKa1
/- How many blocks runs have; which runs a Take is of; Take. -/
namespace Go.Proofs.YtilolepbfmcbgaaGreatDoor
open Go.RowKit Go.MapKept
namespace Rn
open Bm

theorem tot_append (l l' : List Run) : tot (l ++ l') = tot l + tot l' := by simp [tot]
theorem tot_take_le (l : List Run) (k : Nat) : tot (l.take k) ≤ tot l := by
  conv => rhs; rw [← List.take_append_drop k l, tot_append]
  omega
theorem tot_take {l : List Run} {k : Nat} (h : k < l.length) : tot (l.take (k + 1)) = tot (l.take k) + l[k].2 := by
  rw [List.take_succ_eq_append_getElem h, tot_snoc]

section
variable {w : World} {p q K C n : Nat} {f : Nat → Bool}
theorem cut_len_take (l : List Run) (k c : Nat) : (cut (l.take k) c).length ≤ k := by
  have := (cut_le (l.take k) c).2
  rw [List.length_take] at this
  omega
set_option maxRecDepth 100000 in
set_option maxHeartbeats 1000000 in
theorem choose_cut (h : Mp w p q K C n f) (hT : Tab w) (c : Nat) (hc : c ≤ 65534) (hFit : Calls Tryz.prog 162 #[.pointer (some ⟨p, 0, none⟩), .int .i64 (c : Int)] w fun e w' => e = .returned (fv none) ∧ Below w.heap.size w w') :
    Calls Tryz.prog 143 #[.pointer (some ⟨p, 0, none⟩), .int .i64 (c : Int)] w (RsR w (cut (frs f n) c)) := by
  have hmx := h.max
  have hlen := frs_len f n
  have HM0 := Lib.hid h
  have HT0 := Lib.hid hT
  have HF := Lib.hid hFit
  have HFR := Lib.hid (fun (w' : World) (h : Mp w' p q K C n f) (hT : Tab w') => free_any' h hT)
  obtain ⟨i0, hi0, hz0, hz1, hz2⟩ := info_parts run_info
  clear h hT hFit
  generalize frs f n = L at *
  unfold fv at HF
  simp only at HF
  go_enter Tryz.func143, Tryz.ntmps143
  go_wp2_with fail
  refine HF.out.mono ?_
  rintro e w1 ⟨rfl, hb⟩
  have HB1 := Lib.hid hb
  clear hb
  go_wp2_with fail
  have HB2 := Lib.hid (HB1.out.alloc HB1.out.size (.cells #[.int .i64 0, .int .i64 0] 138))
  have HC := Lib.hid (HFR.out _ (HM0.out.keep HB2.out) (HT0.out.below HB2.out HT0.out.lt))
  generalize w1.alloc (.cells #[.int .i64 0, .int .i64 0] 138) = w2 at *
  refine HC.out.mono ?_
  rintro e w3 ⟨F, fc, rfl, hrs, hb⟩
  have HRS := Lib.hid (hrs.less HB2.out.size)
  have HB3 := Lib.hid (HB2.out.trans (hb.mono HB2.out.size))
  clear hrs hb
  go_wp2
  go_loopw [1, 7, 22] (fun cv sv i wr => ∃ (k m gc : Nat) (G : Option Addr), k ≤ L.length ∧ i = .int .i64 (k : Int) ∧ cv = .int .i64 ((c - tot (cut (L.take k) c) : Nat) : Int) ∧ sv = .slice G m gc ∧ GotR 138 w3 wr G m gc (cut (L.take k) c)) (fun _ _ i _ => L.length - (intOf i).toNat)
  case atStart =>
    exact ⟨0, 0, 0, none, Nat.zero_le _, rfl, rfl, rfl, ⟨by rw [List.take_zero]; rfl, .inl ⟨rfl, rfl⟩⟩, Below.refl _ _⟩
  case round =>
    obtain ⟨k, m, gc, G, hk, rfl, rfl, rfl, hgot⟩ := hrel
    by_cases hlt : k < L.length
    · have hrs := HRS.out.keep hgot.2
      obtain ⟨b, o, rfl, hbb, _, hc0, hc1⟩ := hrs.at' k hlt
      have hct := cut_take (c := c) hlt
      have hcf := cut_full (l := L) (k := k) (c := c)
      have hcl := cut_len_take L k c
      have htl := (cut_le (L.take k) c).1
      obtain ⟨hrs2, hml⟩ := own_rs hgot.1
      have HG := Lib.hid hgot
      have HCT := Lib.hid hct
      have HCF := Lib.hid hcf
      have hj0 : (0 : Int) ≤ (k : Int) := by omega
      have hj1 : (k : Int) < (L.length : Int) := by omega
      clear hgot hrs hct hcf
      generalize L[k] = r at *
      obtain ⟨a, x⟩ := r
      generalize cut (L.take k) c = S at *
      generalize hu : c - tot S = u at *
      have huc : u ≤ c := by omega
      have HU := Lib.hid hu
      have HSL := Lib.hid hml
      have hmn : m ≤ 65534 := by omega
      clear hu hml htl hcl
      simp only at hc0 hc1 HCT
      by_cases hu0 : u = 0
      · subst hu0
        have HX := Lib.hid (show RsR w (cut L c) (.returned (.slice G m gc)) (wr.alloc (.cells #[.int .i64 (a : Int), .int .i64 (x : Int)] 138)) from by
          rw [HCF.out rfl, ← HSL.out]
          exact ⟨G, gc, rfl, (hrs2.keep ((Below.refl _ _).alloc (Nat.le_refl _) _)).less HB3.out.size, (HB3.out.trans (HG.out.2.mono HB3.out.size)).alloc (by have := HB3.out.size; have := HG.out.2.size; omega) _⟩)
        clear hrs2
        go_wp2
        go_ret
        exact HX.out
      · have hu1 : ¬ (u : Int) = 0 := by omega
        clear hrs2
        obtain ⟨v, hv⟩ : ∃ v, v = min x u := ⟨_, rfl⟩
        have HT2 := Lib.hid (show cut (L.take (k + 1)) c = S ++ [(a, v)] ∧ c - tot (S ++ [(a, v)]) = u - v from by
          have h1 := HU.out
          refine ⟨by rw [HCT.out, if_neg hu0, hv], ?_⟩
          rw [tot_snoc]
          simp only
          omega)
        have hvu : v ≤ u := by omega
        have HV := Lib.hid hv
        clear hv
        have HSUB := Lib.hid (show (u : Int) - (v : Int) = ((u - v : Nat) : Int) by omega)
        generalize u - v = u2 at *
        have HGL := Lib.hid (fun g hg => (World.ownsRow.lt HG.out.1 g hg).2)
        have HGW := Lib.hid HG.out.2.size
        by_cases hxu : x ≤ u
        · have hxu1 : (x : Int) ≤ (u : Int) := by omega
          obtain rfl : v = x := by rw [HV.out]; omega
          clear hxu HV
          have HOZ := Lib.hid (own2_new wr (a : Int) (v : Int) 138)
          have HBA := Lib.hid ((Below.refl wr.heap.size wr).alloc (Nat.le_refl _) (.cells #[.int .i64 (a : Int), .int .i64 (v : Int)] 138))
          have HOWN := Lib.hid ((own_keep2 HG.out.1 HBA.out).alloc (.cells #[.int .i64 (a : Int), .int .i64 (v : Int)] 138))
          have HB4 := Lib.hid ((HG.out.2.trans (HBA.out.mono HG.out.2.size)).alloc (by have := HBA.out.size; have := HG.out.2.size; omega) (.cells #[.int .i64 (a : Int), .int .i64 (v : Int)] 138))
          have HCN := Lib.hid (cells_two_new (wr.alloc (.cells #[.int .i64 (a : Int), .int .i64 (v : Int)] 138)) (.int .i64 (a : Int)) (.int .i64 (v : Int)) 138)
          rw [World.size_alloc] at HCN
          go_wp2_with (at_builtin; refine wpList_append_own_at _ rfl (.tmp 33) (.tmp 35) 173 rfl w3.heap.size 138 i0 (.agg #[.int .i64 0, .int .i64 0]) 2 16 Tryz.underlying173 hi0 hz0 hz1 hz2 rfl (by decide) (.slice G m gc) m (rcells S) rfl HOWN.out ⟨wr.heap.size + 1, 0, none⟩ 1 1 [.int .i64 (a : Int), .int .i64 (v : Int)] rfl rfl HCN.out (by simp [Value.oneCell']) (by unfold maxLen; omega) (by omega) (by have := HB4.out.size; omega) ?_
                       intro v' w4 hown4 hgr4 _ _
                       obtain ⟨G', gc', rfl⟩ := row_slice2 hown4
                       have HO4 := Lib.hid hown4
                       have HZ4 := Lib.hid ((HOZ.out.keep ((Below.refl _ _).alloc (Nat.le_refl _) _)).grown hgr4 (fun e => Nat.lt_irrefl _ (HGL.out _ e.symm)))
                       have HB5 := Lib.hid (HB4.out.grown hgr4 HB4.out.size (fun k hk => row_base_lt2 HG.out.1 hk))
                       have hz41 : w4.cell? ⟨wr.heap.size, 1, none⟩ = some (.int .i64 (v : Int)) := HZ4.out.c1
                       clear hown4 hgr4)
          refine ⟨⟨k + 1, m + 1, gc', G', by omega, by go_num, ?_, rfl, ⟨?_, HB5.out⟩⟩, by simp [intOf]; omega⟩
          · rw [HT2.out.1, HT2.out.2, ← HSUB.out]
            try rw [Int.sub_self]
          · rw [HT2.out.1, rcells_snoc]
            exact HO4.out
        · have hxu1 : ¬ (x : Int) ≤ (u : Int) := by omega
          obtain rfl : v = u := by rw [HV.out]; omega
          clear hxu HV
          have HOZ := Lib.hid (own2_new wr (a : Int) (v : Int) 138)
          have HBA := Lib.hid ((Below.refl wr.heap.size wr).alloc (Nat.le_refl _) (.cells #[.int .i64 (a : Int), .int .i64 (v : Int)] 138))
          have HOWN := Lib.hid ((own_keep2 HG.out.1 HBA.out).alloc (.cells #[.int .i64 (a : Int), .int .i64 (v : Int)] 138))
          have HB4 := Lib.hid ((HG.out.2.trans (HBA.out.mono HG.out.2.size)).alloc (by have := HBA.out.size; have := HG.out.2.size; omega) (.cells #[.int .i64 (a : Int), .int .i64 (v : Int)] 138))
          have HCN := Lib.hid (cells_two_new (wr.alloc (.cells #[.int .i64 (a : Int), .int .i64 (v : Int)] 138)) (.int .i64 (a : Int)) (.int .i64 (v : Int)) 138)
          rw [World.size_alloc] at HCN
          go_wp2_with (at_builtin; refine wpList_append_own_at _ rfl (.tmp 33) (.tmp 35) 173 rfl w3.heap.size 138 i0 (.agg #[.int .i64 0, .int .i64 0]) 2 16 Tryz.underlying173 hi0 hz0 hz1 hz2 rfl (by decide) (.slice G m gc) m (rcells S) rfl HOWN.out ⟨wr.heap.size + 1, 0, none⟩ 1 1 [.int .i64 (a : Int), .int .i64 (v : Int)] rfl rfl HCN.out (by simp [Value.oneCell']) (by unfold maxLen; omega) (by omega) (by have := HB4.out.size; omega) ?_
                       intro v' w4 hown4 hgr4 _ _
                       obtain ⟨G', gc', rfl⟩ := row_slice2 hown4
                       have HO4 := Lib.hid hown4
                       have HZ4 := Lib.hid ((HOZ.out.keep ((Below.refl _ _).alloc (Nat.le_refl _) _)).grown hgr4 (fun e => Nat.lt_irrefl _ (HGL.out _ e.symm)))
                       have HB5 := Lib.hid (HB4.out.grown hgr4 HB4.out.size (fun k hk => row_base_lt2 HG.out.1 hk))
                       have hz41 : w4.cell? ⟨wr.heap.size, 1, none⟩ = some (.int .i64 (v : Int)) := HZ4.out.c1
                       clear hown4 hgr4)
          refine ⟨⟨k + 1, m + 1, gc', G', by omega, by go_num, ?_, rfl, ⟨?_, HB5.out⟩⟩, by simp [intOf]; omega⟩
          · rw [HT2.out.1, HT2.out.2, ← HSUB.out]
            try rw [Int.sub_self]
          · rw [HT2.out.1, rcells_snoc]
            exact HO4.out
    · obtain rfl : k = L.length := by omega
      rw [List.take_length] at hgot
      obtain ⟨hrs2, hml⟩ := own_rs hgot.1
      have HX := Lib.hid (show RsR w (cut L c) (.returned (.slice G m gc)) wr from by
        rw [← hml]
        exact ⟨G, gc, rfl, hrs2.less HB3.out.size, HB3.out.trans (hgot.2.mono HB3.out.size)⟩)
      clear hgot hrs2 hml
      go_wp2
      go_ret
      exact HX.out

theorem cho_fit {L : List Run} {c : Nat} {r : Run} (hc : 1 ≤ c) (h : fit L c = some r) : cho L c = [r] := by
  unfold cho
  rw [if_pos hc, h]
theorem cho_none {L : List Run} {c : Nat} (h : c = 0 ∨ fit L c = none) : cho L c = cut L c := by
  unfold cho
  split
  · rename_i hc
    rw [h.resolve_left (by omega)]
  · rw [show c = 0 by omega, cut_zero]
set_option maxRecDepth 100000 in
set_option maxHeartbeats 1000000 in
theorem choose_any (h : Mp w p q K C n f) (hT : Tab w) (c : Nat) (hc : c ≤ 65534) :
    Calls Tryz.prog 143 #[.pointer (some ⟨p, 0, none⟩), .int .i64 (c : Int)] w (RsR w (cho (frs f n) c)) := by
  by_cases h0 : c = 0
  · rw [cho_none (.inl h0)]
    exact choose_cut h hT c hc (fit_low _ (by omega))
  · have hF := fit_any h hT c (by omega) (by omega)
    cases hf : fit (frs f n) c with
    | none =>
      rw [cho_none (.inr hf)]
      rw [hf] at hF
      exact choose_cut h hT c hc hF
    | some r =>
      obtain ⟨a, k⟩ := r
      rw [cho_fit (by omega) hf]
      rw [hf] at hF
      unfold fv at hF
      simp only at hF
      have HF := Lib.hid hF
      clear h hT hF hf
      go_enter Tryz.func143, Tryz.ntmps143
      go_wp2_with fail
      refine HF.out.mono ?_
      rintro e w1 ⟨rfl, hb⟩
      have HX := Lib.hid (show RsR w [(a, k)] (.returned (.slice (some ⟨w1.heap.size + 1, 0, none⟩) 1 1)) ((w1.alloc (.cells #[.int .i64 (a : Int), .int .i64 (k : Int)] 138)).alloc (.cells #[.int .i64 (a : Int), .int .i64 (k : Int)] 138)) from by
        have HO := own2_new (w1.alloc (.cells #[.int .i64 (a : Int), .int .i64 (k : Int)] 138)) (a : Int) (k : Int) 138
        rw [World.size_alloc] at HO
        refine ⟨_, _, rfl, ⟨fun j hj => ?_⟩, (hb.alloc hb.size _).alloc (by have := hb.size; simp; omega) _⟩
        obtain rfl : j = 0 := by simpa using hj
        exact ⟨w1.heap.size + 1, 0, rfl, HO.lt, by have := hb.size; omega, HO.c0, HO.c1⟩)
      clear hb
      go_wp2
      go_ret
      exact HX.out

/-- what a Take answers -/
def TkR (w : World) (p q K C n : Nat) (f : Nat → Bool) (l : List Run) (e : Ending) (w' : World) : Prop :=
  ∃ (G : Option Addr) (gc : Nat), e = .returned (.tuple #[.slice G l.length gc, .bool true]) ∧ Rs w' w.heap.size G l ∧ Mp w' p q K C n (fl f l) ∧ Chg q w w'

theorem cho_len (L : List Run) (c : Nat) : (cho L c).length ≤ L.length + 1 := by
  unfold cho
  split
  · split
    · simp
    · have := (cut_le L c).2
      omega
  · simp
set_option maxRecDepth 100000 in
set_option maxHeartbeats 1000000 in
theorem take_no (h : Mp w p q K C n f) (c : Int) (hc : c < 0 ∨ ((n - cnt f n : Nat) : Int) < c) :
    Calls Tryz.prog 104 #[.pointer (some ⟨p, 0, none⟩), .int .i64 c] w fun e w' => e = .returned (.tuple #[.slice none 0 0, .bool false]) ∧ ∃ k, w' = w.drewN k := by
  have HF := Lib.hid (free_any h)
  clear h
  by_cases h0 : c < 0
  · clear hc HF
    go_enter Tryz.func104, Tryz.ntmps104
    go_wp2
    go_ret2
    exact ⟨rfl, 0, rfl⟩
  · have h1 : ((n - cnt f n : Nat) : Int) < c := by omega
    generalize n - cnt f n = m at *
    clear hc
    go_enter Tryz.func104, Tryz.ntmps104
    go_wp2_with fail
    refine HF.out.mono ?_
    rintro e w1 ⟨rfl, k, rfl⟩
    go_wp2
    go_ret2
    exact ⟨rfl, k, rfl⟩
set_option maxRecDepth 100000 in
set_option maxHeartbeats 1000000 in
theorem take_yes (h : Mp w p q K C n f) (hT : Tab w) (hq : 0 ≠ q) (c : Nat) (hc : c ≤ n - cnt f n) :
    Calls Tryz.prog 104 #[.pointer (some ⟨p, 0, none⟩), .int .i64 (c : Int)] w (TkR w p q K C n f (cho (frs f n) c)) := by
  have hmx := h.max
  have hlen := frs_len f n
  have hcl := cho_len (frs f n) c
  have HUP := Lib.hid (up_cho f n c)
  have HF := Lib.hid (free_any h)
  have HC := Lib.hid (fun k => choose_any (h.drewN k) (hT.drewN k) c (by omega))
  have hql := h.row.lt
  have HM0 := Lib.hid h
  have HT0 := Lib.hid hT
  have hc1 : ¬ ((n - cnt f n : Nat) : Int) < (c : Int) := by omega
  clear h hT
  generalize cho (frs f n) c = l at *
  generalize n - cnt f n = m at *
  have hlen2 : l.length ≤ 65535 := by omega
  clear hc hcl hlen
  have HQ := Lib.hid hq
  clear hq
  go_enter Tryz.func104, Tryz.ntmps104
  go_wp2_with fail
  refine HF.out.mono ?_
  rintro e w1 ⟨rfl, kk, rfl⟩
  go_wp2_with fail
  refine (HC.out kk).mono ?_
  rintro e w1 ⟨G, gc, rfl, hrs, hb⟩
  have HRS := Lib.hid hrs
  have HB := Lib.hid (show Below w.heap.size w w1 from ⟨hb.os, hb.tape, hb.output, hb.size, hb.block⟩)
  clear hrs hb
  go_wp2
  go_loopw [22] (fun i wr => ∃ k : Nat, k ≤ l.length ∧ i = .int .i64 (k : Int) ∧ Mp wr p q K C n (fl f (l.take k)) ∧ Chg q w1 wr) (fun i _ => l.length - (intOf i).toNat)
  case atStart => exact ⟨0, Nat.zero_le _, rfl, by rw [List.take_zero]; exact HM0.out.keep HB.out, Chg.refl _ _⟩
  case round =>
    obtain ⟨k, hk, rfl, hM, hC⟩ := hrel
    by_cases hlt : k < l.length
    · have hql2 : q < w.heap.size := hql
      have hrs := HRS.out.chg hC hql2
      obtain ⟨b, o, rfl, hbb, _, hc0, hc1'⟩ := hrs.at' k hlt
      have HFL := Lib.hid (fl_range HUP.out hlt)
      have HM := Lib.hid (hM.keep ((Below.refl wr.heap.size wr).alloc (Nat.le_refl _) (.cells #[.int .i64 (l[k].1 : Int), .int .i64 (l[k].2 : Int)] 138)))
      have HCC := Lib.hid (hC.alloc (.cells #[.int .i64 (l[k].1 : Int), .int .i64 (l[k].2 : Int)] 138))
      have hrg := HUP.out.get hlt
      have hr1 : l[k].1 ≤ 65534 := by omega
      have hr2 : l[k].2 ≤ 65534 := by omega
      have hi0 : (0 : Int) ≤ (k : Int) := by omega
      have hi1 : (k : Int) < (l.length : Int) := by omega
      have HR := Lib.hid (range_any HM.out ((HT0.out.below HB.out HT0.out.lt).chg HCC.out HQ.out) (l[k].1 : Int) (l[k].2 : Int) (by omega) (by omega) (by omega) (by omega))
      clear hrs hM hC hrg
      generalize l[k].1 = a at *
      generalize l[k].2 = x at *
      go_wp2_with fail
      generalize wr.alloc (.cells #[.int .i64 (a : Int), .int .i64 (x : Int)] 138) = w2 at *
      refine HR.out.mono ?_
      rintro e w3 ⟨rfl, hM, hC⟩
      have HM3 := Lib.hid hM
      have HC3 := Lib.hid (HCC.out.trans hC)
      clear hM hC
      go_wp2
      refine ⟨⟨k + 1, by omega, by go_num, by rw [← HFL.out]; exact HM3.out, HC3.out⟩, by simp [intOf]; omega⟩
    · obtain rfl : k = l.length := by omega
      rw [List.take_length] at hM
      have HX := Lib.hid (show TkR w p q K C n f l (.returned (.tuple #[.slice G l.length gc, .bool true])) wr from ⟨G, gc, rfl, HRS.out.chg hC hql, hM, (chg_of_below HB.out q).trans hC⟩)
      clear hM hC
      go_wp2
      go_ret2
      exact HX.out
end
end Rn
end Go.Proofs.YtilolepbfmcbgaaGreatDoor
/- The chapter's example; whether runs are the document's; a map drawn out of numbers. -/
namespace Go.Proofs.YtilolepbfmcbgaaGreatDoor
open Go.RowKit Go.MapKept
namespace Rn
open Bm

/-! The example. -/
def ex1 : Nat → Bool := (tn 6 true (fun _ => false) [1, 4]).1
theorem ex1_two : (tn 6 true (fun _ => false) [1, 4]).2 = 2 := by decide +kernel
theorem ex1_cho : cho (frs ex1 6) 3 = [(0, 1), (2, 2)] := by decide +kernel
theorem ex1_cnt : cnt ex1 6 = 2 := by decide +kernel

set_option maxRecDepth 100000 in
set_option maxHeartbeats 2000000 in
theorem lives_any (w : World) (hT : Tab w) : Calls Tryz.prog 68 #[] w fun e w' => e = .returned (.bool true) ∧ Below w.heap.size w w' := by
  have hlt := hT.lt
  have HT := Lib.hid hT
  have HN := Lib.hid (new_any 6 6 1 (by decide) (by decide) w)
  have HL := Lib.hid (fun (w' : World) (h : Tab w') => Bm.lives_any w' h)
  clear hT
  go_enter Tryz.func68, Tryz.ntmps68
  go_wp2_with fail
  refine HN.out.mono ?_
  rintro e w1 ⟨rfl, hM, hb1⟩
  have HM := Lib.hid hM
  have HB := Lib.hid hb1
  clear hM hb1
  go_wp2_with fail
  refine (HL.out _ (HT.out.below HB.out hlt)).mono ?_
  rintro e w2 ⟨rfl, hb2⟩
  have HM2 := Lib.hid (HM.out.keep hb2)
  have HB2 := Lib.hid (HB.out.trans (hb2.mono HB.out.size))
  have hsz : w.heap.size < w2.heap.size := HM2.out.row.lt
  clear hb2
  have hmA := HM2.out.keep ((Below.refl _ _).alloc (Nat.le_refl _) (.cells #[.int .i64 1, .int .i64 4] 3))
  have hput := put_any hmA (some ⟨w2.heap.size, 0, none⟩) 2 [1, 4] (nts_cells w2 [1, 4] (by intro x hx; simp at hx; omega) (by decide) HM2.out.row.lt)
  rw [ex1_two] at hput
  have HP := Lib.hid (show Calls Tryz.prog 24 #[.pointer (some ⟨w.heap.size + 1, 0, none⟩), .slice (some ⟨w2.heap.size, 0, none⟩) 2 2] (w2.alloc (.cells #[.int .i64 1, .int .i64 4] 3)) fun e w' => e = .returned (.int .i64 2) ∧ Mp w' (w.heap.size + 1) w.heap.size 1 1 6 ex1 ∧ Chg w.heap.size (w2.alloc (.cells #[.int .i64 1, .int .i64 4] 3)) w' from hput)
  clear hmA hput
  go_wp2_with fail
  refine HP.out.mono ?_
  rintro e w3 ⟨rfl, hM3, hC3⟩
  have HM3 := Lib.hid hM3
  have HC3 := Lib.hid (((Chg.refl w.heap.size w2).alloc _).trans hC3)
  have HB3 := Lib.hid (HB2.out.trans (HC3.out.below (Nat.le_of_lt hsz) (Nat.le_refl _)))
  clear hM3 hC3
  have htk := take_yes HM3.out (HT.out.below HB3.out hlt) (Nat.ne_of_lt hlt) 3 (by rw [ex1_cnt]; decide)
  rw [ex1_cho] at htk
  have HTK := Lib.hid htk
  clear htk
  go_wp2_with fail
  refine HTK.out.mono ?_
  rintro e w4 ⟨G, gc, rfl, hrs, hM4, hC4⟩
  have HB4 := Lib.hid (HB3.out.trans (hC4.below HB3.out.size (Nat.le_refl _)))
  obtain ⟨b, o, rfl, _, _, hc0, hc1⟩ := hrs.at' 0 (by decide)
  obtain ⟨b2, o2, e2, _, _, hd0, hd1⟩ := hrs.at' 1 (by decide)
  injection e2 with e2
  injection e2 with e3 e4
  subst e3
  subst e4
  clear hrs hM4 hC4
  simp only [List.getElem_cons_zero, List.getElem_cons_succ, Nat.zero_mul, Nat.add_zero, Nat.one_mul, List.length_cons, List.length_nil] at hc0 hc1 hd0 hd1 ⊢
  go_wp2
  go_ret
  exact ⟨rfl, HB4.out⟩

/-! A map out of numbers. -/
/-- unsigned numbers as they lie -/
structure Uns (kd : IntKind) (w : World) (A : Option Addr) (l : List Nat) : Prop where
  at' : ∀ j (h : j < l.length), ∃ b o, A = some ⟨b, o, none⟩ ∧ b < w.heap.size ∧ w.cell? ⟨b, o + j, none⟩ = some (.int kd (l[j] : Int))
theorem Uns.keep {kd : IntKind} {w w' : World} {A : Option Addr} {l : List Nat} (h : Uns kd w A l) (hb : Below w.heap.size w w') : Uns kd w' A l :=
  ⟨fun j hj => by
    obtain ⟨b, o, e, hlt, hc⟩ := h.at' j hj
    exact ⟨b, o, e, Nat.lt_of_lt_of_le hlt hb.size, (hb.cell (p := ⟨b, o + j, none⟩) hlt).trans hc⟩⟩
/-- which blocks a drawn map has -/
def drw (k : Nat) (us : List Nat) : Nat → Bool := us.foldl (fun f u => trn k true f ((u % k : Nat) : Int)) (fun _ => false)
theorem drw_take {k : Nat} {us : List Nat} {j : Nat} (h : j < us.length) : drw k (us.take (j + 1)) = trn k true (drw k (us.take j)) ((us[j] % k : Nat) : Int) := by
  unfold drw
  rw [List.take_succ_eq_append_getElem h, List.foldl_append]
  rfl
/-- what is drawn: the map in P, its words in Q, and the document's -/
def Drw (w : World) (k : Nat) (us : List Nat) (e : Ending) (w' : World) : Prop :=
  ∃ (A : Option Addr) (c : Nat), e = .returned (.tuple #[.pointer (some ⟨w.heap.size + 1, 0, none⟩), .slice A k c]) ∧ Mp w' (w.heap.size + 1) w.heap.size ((k + 63) / 64) ((k + 63) / 64) k (drw k us) ∧ Bls w' w.heap.size A k (drw k us) ∧ Below w.heap.size w w'

end Rn
end Go.Proofs.YtilolepbfmcbgaaGreatDoor
