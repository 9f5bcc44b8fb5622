/- The document's free runs, its Fit and its Take. -/
import Derived.Test.YtblibjjnbbleeaaDoorRunTake
import Derived.Test.YtblibjjnbbleeaaDoorBmRefW
import Derived.Test.YtblibjjnbbleeaaDoorBmSame
import Derived.IntWalk
namespace Go.Proofs.YtblibjjnbbleeaaDoor
open Go.RowKit Go.MapKept
namespace Rn
open Bm

/-- between two rounds of the document's Free -/
def Rr (w wr : World) (f : Nat → Bool) (b m gc : Nat) (G : Option Addr) : Prop := GotR 37 w wr G m gc (frs f b)

theorem frs_used {f : Nat → Bool} {b : Nat} (h : f b = true) : frs f (b + 1) = frs f b := by rw [frs, h]; rfl
theorem frs_free {f : Nat → Bool} {b : Nat} (h : f b = false) : frs f (b + 1) = ext (frs f b) b := by rw [frs, h]; rfl
theorem last_split (l : List Run) : l = [] ∨ ∃ l' r, l = l' ++ [r] := by
  rcases List.eq_nil_or_concat l with h | ⟨l', r, h⟩
  · exact .inl h
  · exact .inr ⟨l', r, by simpa using h⟩
theorem ext_nil (b : Nat) : ext [] b = [(b, 1)] := rfl
theorem ext_not {l : List Run} {r : Run} {b : Nat} (h : ¬ r.1 + r.2 = b) : ext (l ++ [r]) b = l ++ [r] ++ [(b, 1)] := by
  unfold ext
  simp [h]

section
variable {w : World} {q n : Nat} {f : Nat → Bool}
set_option maxRecDepth 100000 in
set_option maxHeartbeats 2000000 in
theorem refFree_any (A : Option Addr) (c : Nat) (h : Bls w q A n f) (hn : n ≤ 65534) :
    Calls Tryd.prog 17 #[.slice A n c] w (RsR w (frs f n)) := by
  have H := Lib.hid h
  obtain ⟨i0, hi0, hz0, hz1, hz2⟩ := info_parts ref_info
  clear h
  go_enter Tryd.func17, Tryd.ntmps17
  go_wp2
  go_loopw [3, 9] (fun sv i wr => ∃ (b m gc : Nat) (G : Option Addr), b ≤ n ∧ i = .int .i64 (b : Int) ∧ sv = .slice G m gc ∧ Rr w wr f b m gc G) (fun _ i _ => n - (intOf i).toNat)
  case atStart => exact ⟨0, 0, 0, none, Nat.zero_le _, rfl, rfl, ⟨rfl, .inl ⟨rfl, rfl⟩⟩, Below.refl _ _⟩
  case round =>
    obtain ⟨b, m, gc, G, hb, rfl, rfl, hgot⟩ := hrel
    by_cases hlt : b < n
    · obtain ⟨bb, o, rfl, hbb, _, hc0⟩ := (H.out.keep hgot.2).at' b hlt
      have hi0' : (0 : Int) ≤ (b : Int) := by omega
      have hi1' : (b : Int) < (n : Int) := by omega
      cases hf : f b with
      | true =>
        rw [hf] at hc0
        have HG := Lib.hid hgot
        have HFU := Lib.hid (frs_used hf)
        clear hgot hf
        go_wp2
        refine ⟨⟨b + 1, m, gc, G, by omega, by go_num, rfl, ?_⟩, by simp [intOf]; omega⟩
        unfold Rr
        rw [HFU.out]
        exact HG.out
      | false =>
        rw [hf] at hc0
        have HG := Lib.hid hgot
        have HFU := Lib.hid (frs_free hf)
        obtain ⟨-, hml⟩ := own_rs hgot.1
        have hle := frs_len f b
        have HE := Lib.hid (frs_ends f b)
        clear hgot hf
        unfold Rr at HG
        generalize frs f b = S at *
        have hm : m ≤ 65534 := by omega
        clear hle
        rcases last_split S with hS | ⟨S', r, hS⟩
        · subst hS
          have hm0 : m = 0 := by simpa using hml.symm
          subst hm0
          clear hml
          have hg0 : decide ((0 : Int) < ((0 : Nat) : Int)) = false := rfl
          go_wp2_with fail
          go_quiet (fail)
          clear hg0
          have HGW := Lib.hid (show GotR 37 w (wr.drewN nq) G 0 gc ([]) from ⟨HG.out.1, below_drewN HG.out.2 nq⟩)
          clear HG hc0 hbb
          generalize wr.drewN nq = wq at *
          have HOWN := Lib.hid (HGW.out.1.alloc (.cells #[.int .i64 (b : Int), .int .i64 1] 37))
          have HB3 := Lib.hid (HGW.out.2.alloc HGW.out.2.size (.cells #[.int .i64 (b : Int), .int .i64 1] 37))
          have HCT := Lib.hid (cells_two_new wq (.int .i64 (b : Int)) (.int .i64 1) 37)
          go_wp2_with (at_builtin; refine wpList_append_own_at _ rfl (.tmp 45) (.tmp 48) 43 rfl w.heap.size 37 i0 (.agg #[.int .i64 0, .int .i64 0]) 2 16 Tryd.underlying43 hi0 hz0 hz1 hz2 rfl (by decide) (.slice G 0 gc) 0 (rcells ([])) rfl HOWN.out ⟨wq.heap.size, 0, none⟩ 1 1 [.int .i64 (b : Int), .int .i64 1] rfl rfl HCT.out (by simp [Value.oneCell']) (by unfold maxLen; omega) (by omega) (by have := HB3.out.size; omega) ?_
                       intro v' w3 hown3 hgr3 _ _
                       obtain ⟨G', gc', rfl⟩ := row_slice2 hown3
                       have HO3 := Lib.hid hown3
                       have HB4 := Lib.hid (HB3.out.grown hgr3 HB3.out.size (fun k hk => row_base_lt2 HGW.out.1 hk))
                       clear hown3 hgr3)
          refine ⟨⟨b + 1, 0 + 1, gc', G', by omega, by go_num, rfl, ⟨?_, HB4.out⟩⟩, by simp [intOf]; omega⟩
          rw [HFU.out, ext_nil]
          exact HO3.out
        · subst hS
          obtain ⟨a, x⟩ := r
          rw [List.length_append] at hml
          simp only [List.length_cons, List.length_nil] at hml
          obtain ⟨g, rfl, hgl, hgB, hgf⟩ := own_some HG.out.1 (by omega)
          obtain ⟨hrs, -⟩ := own_rs HG.out.1
          obtain ⟨g2, o2, e, _, _, hg0, hg1⟩ := hrs.at' S'.length (by simp)
          injection e with e
          injection e with e1 e2
          subst e1
          subst e2
          rw [List.getElem_append_right (Nat.le_refl _)] at hg0 hg1
          simp only [Nat.sub_self, List.getElem_cons_zero, Nat.zero_add] at hg0 hg1
          have HML := Lib.hid hml
          have HL := Lib.hid (fun x' => own_last (x' := x') HG.out.1)
          have hm0 : decide ((0 : Int) < (m : Int)) = true := decide_eq_true (by omega)
          have hm0' : decide (0 < m) = true := decide_eq_true (by omega)
          have hm0n : 0 < m := by omega
          have hm1 : IntKind.i64.wrap ((m : Int) - 1) = (S'.length : Int) := by rw [IntWalk.i64_in _ (by omega)]; omega
          have hm1' : (m : Int) - 1 = (S'.length : Int) := by omega
          have hm2 : (S'.length : Int) < (m : Int) := by omega
          have hfz := hgf (S'.length * 2 + 1)
          have hax := HE.out (a, x) (by simp)
          simp only at hax
          obtain ⟨e, he⟩ : ∃ e, e = a + x := ⟨_, rfl⟩
          have hs1 : IntKind.i64.wrap ((a : Int) + (x : Int)) = (e : Int) := by rw [IntWalk.i64_in _ (by omega)]; omega
          have hs1' : (a : Int) + (x : Int) = (e : Int) := by omega
          have hx1 : x ≤ 65534 := by omega
          have hel : e ≤ b := by omega
          have HEE := Lib.hid he
          clear hml hrs hax he
          by_cases heb : e = b
          · subst heb
            have HFX := Lib.hid (HFU.out.trans (ext_end (show (a, x).1 + (a, x).2 = e from HEE.out.symm)))
            have HLX := Lib.hid (HL.out (x + 1))
            have HGB := Lib.hid (HG.out.2)
            clear HFU HL
            generalize S'.length = z at *
            have hm3 : (0 : Int) ≤ (z : Int) := by omega
            go_wp2_with fail
            go_quiet (fail)
            clear hm1 hs1
            go_wp2
            rw [show ((x : Int) + 1) = ((x + 1 : Nat) : Int) from rfl]
            refine ⟨⟨e + 1, m, gc, some ⟨g, 0, none⟩, by omega, by go_num, rfl, ⟨?_, (below_drewN HGB.out nq).setCell (p := ⟨g, z * 2 + 1, none⟩) hgB _⟩⟩, by simp [intOf]; omega⟩
            rw [HFX.out]
            exact HLX.out
          · have hne : ((e : Int) == (b : Int)) = false := by simp; omega
            have HFX := Lib.hid (HFU.out.trans (ext_not (show ¬ (a, x).1 + (a, x).2 = b from fun h => heb (HEE.out.trans h))))
            clear HFU heb
            generalize S'.length = z at *
            have hm3 : (0 : Int) ≤ (z : Int) := by omega
            go_wp2_with fail
            go_quiet (fail)
            clear hm1 hs1 hne hm1' hs1'
            have HGW := Lib.hid (show GotR 37 w (wr.drewN nq) (some ⟨g, 0, none⟩) m gc (S' ++ [(a, x)]) from ⟨HG.out.1, below_drewN HG.out.2 nq⟩)
            clear HG hc0 hbb hgl hgf hg0 hg1 hfz HL
            generalize wr.drewN nq = wq at *
            have HOWN := Lib.hid (HGW.out.1.alloc (.cells #[.int .i64 (b : Int), .int .i64 1] 37))
            have HB3 := Lib.hid (HGW.out.2.alloc HGW.out.2.size (.cells #[.int .i64 (b : Int), .int .i64 1] 37))
            have HCT := Lib.hid (cells_two_new wq (.int .i64 (b : Int)) (.int .i64 1) 37)
            go_wp2_with (at_builtin; refine wpList_append_own_at _ rfl (.tmp 45) (.tmp 48) 43 rfl w.heap.size 37 i0 (.agg #[.int .i64 0, .int .i64 0]) 2 16 Tryd.underlying43 hi0 hz0 hz1 hz2 rfl (by decide) (.slice (some ⟨g, 0, none⟩) m gc) m (rcells (S' ++ [(a, x)])) rfl HOWN.out ⟨wq.heap.size, 0, none⟩ 1 1 [.int .i64 (b : Int), .int .i64 1] rfl rfl HCT.out (by simp [Value.oneCell']) (by unfold maxLen; omega) (by omega) (by have := HB3.out.size; omega) ?_
                         intro v' w3 hown3 hgr3 _ _
                         obtain ⟨G', gc', rfl⟩ := row_slice2 hown3
                         have HO3 := Lib.hid hown3
                         have HB4 := Lib.hid (HB3.out.grown hgr3 HB3.out.size (fun k hk => row_base_lt2 HGW.out.1 hk))
                         clear hown3 hgr3)
            refine ⟨⟨b + 1, m + 1, gc', G', by omega, by go_num, rfl, ⟨?_, HB4.out⟩⟩, by simp [intOf]; omega⟩
            rw [HFX.out, rcells_snoc]
            exact HO3.out
    · obtain rfl : b = n := by omega
      obtain ⟨hrs, hml⟩ := own_rs hgot.1
      have HX := Lib.hid (show RsR w (frs f b) (.returned (.slice G m gc)) wr from by
        rw [← hml]
        exact ⟨G, gc, rfl, hrs, hgot.2⟩)
      clear hgot hrs hml
      go_wp2
      go_ret
      exact HX.out

set_option maxRecDepth 100000 in
set_option maxHeartbeats 1000000 in
theorem refFit_low (A : Option Addr) (c : Nat) (x : Int) (hx : x < 1) : Calls Tryd.prog 14 #[.slice A n c, .int .i64 x] w fun e w' => e = .returned (fv none) ∧ Below w.heap.size w w' := by
  have HO := Lib.hid (own2_new w 0 0 37)
  have HB := Lib.hid ((Below.refl w.heap.size w).alloc (Nat.le_refl _) (.cells #[.int .i64 0, .int .i64 0] 37))
  have hc0 := HO.out.c0
  have hc1 := HO.out.c1
  have hf0 := HO.out.f 0
  have hf1 := HO.out.f 1
  go_enter Tryd.func14, Tryd.ntmps14
  go_wp2
  refine bodyPost_ret (v := fv none) ?_ rfl ⟨rfl, ?_⟩
  · simp [results, Tryd.results14, go_sem, hc0, hc1, fv]
  · exact HB.out
set_option maxRecDepth 100000 in
set_option maxHeartbeats 1000000 in
theorem refFit_any (A : Option Addr) (c : Nat) (h : Bls w q A n f) (hn : n ≤ 65534) (x : Nat) (hx : 1 ≤ x) (hx2 : x ≤ 9223372036854775807) :
    Calls Tryd.prog 14 #[.slice A n c, .int .i64 (x : Int)] w fun e w' => e = .returned (fv (fit (frs f n) x)) ∧ Below w.heap.size w w' := by
  have HO := Lib.hid (own2_new w 0 0 37)
  have HB := Lib.hid ((Below.refl w.heap.size w).alloc (Nat.le_refl _) (.cells #[.int .i64 0, .int .i64 0] 37))
  have hxx : ¬ (x : Int) < 1 := by omega
  have HC := Lib.hid (refFree_any A c (h.keep HB.out) hn)
  have hlen := frs_len f n
  generalize frs f n = L at *
  clear h
  go_enter Tryd.func14, Tryd.ntmps14
  go_wp2_with fail
  generalize w.alloc (.cells #[.int .i64 0, .int .i64 0] 37) = w1 at *
  refine HC.out.mono ?_
  rintro e w2 ⟨F, fc, rfl, hrs, hb⟩
  have HRS := Lib.hid (hrs.less HB.out.size)
  have HB2 := Lib.hid (HB.out.trans (hb.mono HB.out.size))
  have HO2 := Lib.hid (HO.out.keep hb)
  clear hrs hb
  go_wp2
  go_loopw [14] (fun i wr => ∃ k : Nat, k ≤ L.length ∧ i = .int .i64 (k : Int) ∧ fit L x = fit (L.drop k) x ∧ Below w.heap.size w wr ∧ Rs wr w.heap.size F L ∧ Own2 wr w.heap.size 0 0) (fun i _ => L.length - (intOf i).toNat)
  case atStart => exact ⟨0, Nat.zero_le _, rfl, rfl, HB2.out, HRS.out, HO2.out⟩
  case round =>
    obtain ⟨k, hk, rfl, hfit, hb, hrs, hr⟩ := hrel
    by_cases hlt : k < L.length
    · obtain ⟨b, o, rfl, hbb, _, hc0, hc1⟩ := hrs.at' k hlt
      have hdr : L.drop k = L[k] :: L.drop (k + 1) := List.drop_eq_getElem_cons hlt
      rw [hdr] at hfit
      generalize L[k] = r at *
      obtain ⟨a, y⟩ := r
      simp only at hc0 hc1
      have HFT := Lib.hid hfit
      have hba := (Below.refl wr.heap.size wr).alloc (Nat.le_refl _) (.cells #[.int .i64 (a : Int), .int .i64 (y : Int)] 37)
      have HB3 := Lib.hid (hb.alloc hb.size (.cells #[.int .i64 (a : Int), .int .i64 (y : Int)] 37))
      have HR3 := Lib.hid (hr.keep hba)
      have HRS3 := Lib.hid (hrs.keep hba)
      have hrl := hr.lt
      have hi0 : (0 : Int) ≤ (k : Int) := by omega
      have hi1 : (k : Int) < (L.length : Int) := by omega
      by_cases hxy : x ≤ y
      · have hxy1 : (x : Int) ≤ (y : Int) := by omega
        have hr0 := hr.c0
        have hr1 := hr.c1
        have hrf0 := hr.f 0
        have hrf1 := hr.f 1
        have HP := Lib.hid ((hr.put (a : Int) (x : Int)).keep ((Below.refl _ _).alloc (Nat.le_refl _) (.cells #[.int .i64 (a : Int), .int .i64 (y : Int)] 37)))
        have HPB := Lib.hid (((hb.setCell (p := ⟨w.heap.size, 0, none⟩) (Nat.le_refl _) (.int .i64 (a : Int))).setCell (p := ⟨w.heap.size, 1, none⟩) (Nat.le_refl _) (.int .i64 (x : Int))).alloc (by have := hb.size; simpa using this) (.cells #[.int .i64 (a : Int), .int .i64 (y : Int)] 37))
        clear hfit hb hrs hr hdr hba
        go_wp2
        have hp0 := HP.out.c0
        have hp1 := HP.out.c1
        refine bodyPost_ret (v := fv (some (a, x))) ?_ rfl ⟨?_, ?_⟩
        · simp [results, Tryd.results14, go_sem, hp0, hp1, fv]
        · rw [HFT.out, fit_yes hxy]
        · exact HPB.out
      · have hxy1 : ¬ (x : Int) ≤ (y : Int) := by omega
        clear hfit hb hrs hr hdr hba
        go_wp2
        refine ⟨⟨k + 1, by omega, by go_num, ?_, HB3.out, HRS3.out, HR3.out⟩, by simp [intOf]; omega⟩
        rw [HFT.out, fit_no hxy]
    · obtain rfl : k = L.length := by omega
      have hc0 := hr.c0
      have hc1 := hr.c1
      have hf0 := hr.f 0
      have hf1 := hr.f 1
      have HFT := Lib.hid hfit
      have HB3 := Lib.hid hb
      clear hfit hb hrs hr
      go_wp2
      refine bodyPost_ret (v := fv none) ?_ rfl ⟨?_, ?_⟩
      · simp [results, Tryd.results14, go_sem, hc0, hc1, fv]
      · rw [HFT.out, List.drop_length]; rfl
      · exact (HB3.out.setCell (Nat.le_refl _) _).setCell (Nat.le_refl _) _
end
end Rn
end Go.Proofs.YtblibjjnbbleeaaDoor
