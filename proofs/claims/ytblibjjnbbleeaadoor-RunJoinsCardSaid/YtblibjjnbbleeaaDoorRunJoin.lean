/- Runs that go on are one. -/
import Derived.Test.YtblibjjnbbleeaaDoorRunTake
import Derived.Test.YtblibjjnbbleeaaDoorBmSame
import Derived.Deep.RegionHeld3
import Derived.BigCall
import Derived.IntWalk
import Derived.Deep.DeepCutAuto
namespace Go.Proofs.YtblibjjnbbleeaaDoor
open Go.RowKit Go.MapKept
namespace Rn
open Bm

theorem last_split' (l : List Run) : l = [] ∨ ∃ l' r, l = l' ++ [r] := by
  rcases List.eq_nil_or_concat l with h | ⟨l', r, h⟩
  · exact .inl h
  · exact .inr ⟨l', r, by simpa using h⟩
/-- one run more -/
def jn1 (J : List Run) (r : Run) : List Run :=
  match J.getLast? with
  | some q => if q.1 + q.2 = r.1 then J.dropLast ++ [(q.1, q.2 + r.2)] else J ++ [r]
  | none => [r]
def jn (l : List Run) : List Run := l.foldl jn1 []
theorem jn_take {l : List Run} {k : Nat} (h : k < l.length) : jn (l.take (k + 1)) = jn1 (jn (l.take k)) l[k] := by
  unfold jn
  rw [List.take_succ_eq_append_getElem h, List.foldl_append]
  rfl
theorem jn1_nil (r : Run) : jn1 [] r = [r] := rfl
theorem jn1_on {S : List Run} {q r : Run} (h : q.1 + q.2 = r.1) : jn1 (S ++ [q]) r = S ++ [(q.1, q.2 + r.2)] := by simp [jn1, h]
theorem jn1_not {S : List Run} {q r : Run} (h : ¬ q.1 + q.2 = r.1) : jn1 (S ++ [q]) r = S ++ [q] ++ [r] := by simp [jn1, h]
theorem jn1_tot (J : List Run) (r : Run) : tot (jn1 J r) = tot J + r.2 := by
  rcases last_split' J with h | ⟨S, q, h⟩
  · subst h; simp [jn1, tot]
  · subst h
    by_cases e : q.1 + q.2 = r.1
    · rw [jn1_on e, tot_snoc, tot_snoc]
      simp only
      omega
    · rw [jn1_not e, tot_snoc]
theorem jn_tot (l : List Run) : ∀ k, k ≤ l.length → tot (jn (l.take k)) = tot (l.take k)
  | 0, _ => by simp [jn, tot]
  | k + 1, h => by rw [jn_take (by omega), jn1_tot, jn_tot l k (by omega), tot_take (by omega)]
theorem jn1_len (J : List Run) (r : Run) : (jn1 J r).length ≤ J.length + 1 := by
  rcases last_split' J with h | ⟨S, q, h⟩
  · subst h; simp [jn1]
  · subst h
    by_cases e : q.1 + q.2 = r.1
    · rw [jn1_on e]; simp
    · rw [jn1_not e]; simp
theorem jn_len (l : List Run) : ∀ k, k ≤ l.length → (jn (l.take k)).length ≤ k
  | 0, _ => by simp [jn]
  | k + 1, h => by
    have := jn1_len (jn (l.take k)) (l[k]'(by omega))
    rw [jn_take (by omega)]
    have := jn_len l k (by omega)
    omega
/-- starts are bounded, and no run is empty -/
def Bd (N : Nat) (l : List Run) : Prop := ∀ r ∈ l, r.1 ≤ N ∧ 1 ≤ r.2
theorem jn1_bd {N : Nat} {J : List Run} {r : Run} (h : Bd N J) (hr : r.1 ≤ N ∧ 1 ≤ r.2) : Bd N (jn1 J r) := by
  rcases last_split' J with e | ⟨S, q, e⟩
  · subst e
    intro x hx
    obtain rfl : x = r := by simpa [jn1] using hx
    exact hr
  · subst e
    have hq := h q (by simp)
    by_cases e : q.1 + q.2 = r.1
    · rw [jn1_on e]
      intro x hx
      rcases List.mem_append.1 hx with hx | hx
      · exact h x (by simp [hx])
      · obtain rfl : x = (q.1, q.2 + r.2) := by simpa using hx
        exact ⟨hq.1, by simp only; omega⟩
    · rw [jn1_not e]
      intro x hx
      rcases List.mem_append.1 hx with hx | hx
      · exact h x hx
      · obtain rfl : x = r := by simpa using hx
        exact hr
theorem jn_bd {N : Nat} {l : List Run} (h : Bd N l) : ∀ k, k ≤ l.length → Bd N (jn (l.take k))
  | 0, _ => by simp [jn, Bd]
  | k + 1, hk => by
    rw [jn_take (by omega)]
    exact jn1_bd (jn_bd h k (by omega)) (h _ (List.getElem_mem _))

theorem bool_ret {a b : Bool} (h : a = b) : Ending.returned (.bool a) = .returned (.bool b) := by rw [h]
set_option maxRecDepth 100000 in
set_option maxHeartbeats 1000000 in
theorem goesOn_any (w : World) (a x b y : Nat) (ha : a ≤ 1000000) (hx : 1 ≤ x) (hx2 : x ≤ 1000000) :
    Calls Tryd.prog 42 #[.agg #[.int .i64 (a : Int), .int .i64 (x : Int)], .agg #[.int .i64 (b : Int), .int .i64 (y : Int)]] w fun e w' => e = .returned (.bool (decide (a + x = b))) ∧ Below w.heap.size w w' := by
  obtain ⟨e0, he⟩ : ∃ e, e = a + x := ⟨_, rfl⟩
  have hs : (a : Int) + (x : Int) = (e0 : Int) := by omega
  have hx0 : (0 : Int) < (x : Int) := by omega
  have hae : (a : Int) < (e0 : Int) := by omega
  have HB := Lib.hid (((Below.refl w.heap.size w).alloc (Nat.le_refl _) (.cells #[.int .i64 (a : Int), .int .i64 (x : Int)] 30)).alloc (by simp) (.cells #[.int .i64 (b : Int), .int .i64 (y : Int)] 30))
  rw [← he]
  have HE := Lib.hid (show ((e0 : Int) == (b : Int)) = decide (e0 = b) from by
    rw [Bool.eq_iff_iff]
    simp only [beq_iff_eq, decide_eq_true_eq]
    omega)
  clear he
  go_enter Tryd.func42, Tryd.ntmps42
  go_wp2
  go_ret
  exact ⟨bool_ret HE.out, HB.out⟩

set_option maxRecDepth 100000 in
set_option maxHeartbeats 2000000 in
theorem join_any (w : World) (B : Nat) (A : Option Addr) (c : Nat) (l : List Run) (h : Rs w B A l) (hl : l.length ≤ 1000) (hbd : Bd 1000000 l) (ht : tot l ≤ 1000000) :
    Calls Tryd.prog 26 #[.slice A l.length c] w (RsR w (jn l)) := by
  have H := Lib.hid h
  have HBD := Lib.hid hbd
  have HTT := Lib.hid ht
  obtain ⟨i0, hi0, hz0, hz1, hz2⟩ := info_parts run_info
  clear h hbd ht
  go_enter Tryd.func26, Tryd.ntmps26
  go_wp2
  go_loopw [3, 9] (fun sv i wr => ∃ (k m gc : Nat) (G : Option Addr), k ≤ l.length ∧ i = .int .i64 (k : Int) ∧ sv = .slice G m gc ∧ GotR 30 w wr G m gc (jn (l.take k))) (fun _ i _ => l.length - (intOf i).toNat)
  case atStart => exact ⟨0, 0, 0, none, Nat.zero_le _, rfl, rfl, ⟨rfl, .inl ⟨rfl, rfl⟩⟩, Below.refl _ _⟩
  case round =>
    obtain ⟨k, m, gc, G, hk, rfl, rfl, hgot⟩ := hrel
    by_cases hlt : k < l.length
    · obtain ⟨bb, o, rfl, hbb, _, hc0, hc1⟩ := (H.out.keep hgot.2).at' k hlt
      have hi0' : (0 : Int) ≤ (k : Int) := by omega
      have hi1' : (k : Int) < (l.length : Int) := by omega
      have HJT := Lib.hid (jn_take hlt)
      have HJB := Lib.hid (jn_bd HBD.out k hk)
      have hjt := jn_tot l k hk
      have htl := tot_take_le l (k + 1)
      have htk := tot_take hlt
      have hht := HTT.out
      have HTJ := Lib.hid (show tot (jn (l.take k)) + l[k].2 ≤ 1000000 by omega)
      obtain ⟨-, hml⟩ := own_rs hgot.1
      have hjl := jn_len l k hk
      have hm : m ≤ 1000 := by omega
      have hba := (Below.refl wr.heap.size wr).alloc (Nat.le_refl _) (.cells #[.int .i64 (l[k].1 : Int), .int .i64 (l[k].2 : Int)] 30)
      have HG := Lib.hid (show GotR 30 w (wr.alloc (.cells #[.int .i64 (l[k].1 : Int), .int .i64 (l[k].2 : Int)] 30)) G m gc (jn (l.take k)) from ⟨own_keep2 hgot.1 hba, hgot.2.trans (hba.mono hgot.2.size)⟩)
      have HOZ := Lib.hid (own2_new wr (l[k].1 : Int) (l[k].2 : Int) 30)
      have HGL := Lib.hid (fun g hg => (World.ownsRow.lt hgot.1 g hg).2)
      clear hgot hjt htl htk hht hjl hba
      generalize hr : l[k] = r at *
      clear hr
      obtain ⟨b, y⟩ := r
      simp only at hc0 hc1 HG HOZ HTJ
      generalize jn (l.take k) = S at *
      rcases last_split' S with hS | ⟨S', r, hS⟩
      · subst hS
        have hm0 : m = 0 := by simpa using hml.symm
        subst hm0
        have HJ := Lib.hid (HJT.out.trans (jn1_nil (b, y)))
        have hg0 : decide ((0 : Int) ≤ ((0 : Nat) : Int) - 1) = false := by decide
        clear hml
        go_wp2_with fail
        go_quiet (fail)
        have HGW := Lib.hid (show GotR 30 w ((wr.alloc (.cells #[.int .i64 (b : Int), .int .i64 (y : Int)] 30)).drewN nq) G 0 gc [] from ⟨HG.out.1, below_drewN HG.out.2 nq⟩)
        have hvc0 : ((wr.alloc (.cells #[.int .i64 (b : Int), .int .i64 (y : Int)] 30)).drewN nq).cell? ⟨wr.heap.size, 0, none⟩ = some (.int .i64 (b : Int)) := HOZ.out.c0
        have hvc1 : ((wr.alloc (.cells #[.int .i64 (b : Int), .int .i64 (y : Int)] 30)).drewN nq).cell? ⟨wr.heap.size, 1, none⟩ = some (.int .i64 (y : Int)) := HOZ.out.c1
        clear HG HOZ hc0 hc1 hbb hg0
        generalize (wr.alloc (.cells #[.int .i64 (b : Int), .int .i64 (y : Int)] 30)).drewN nq = wq at *
        generalize wr.heap.size = v at *
        have HOWN := Lib.hid (HGW.out.1.alloc (.cells #[.int .i64 (b : Int), .int .i64 (y : Int)] 30))
        have HB3 := Lib.hid (HGW.out.2.alloc HGW.out.2.size (.cells #[.int .i64 (b : Int), .int .i64 (y : Int)] 30))
        have HCT := Lib.hid (cells_two_new wq (.int .i64 (b : Int)) (.int .i64 (y : Int)) 30)
        go_wp2_with (at_builtin; refine wpList_append_own_at _ rfl (.tmp 36) (.tmp 38) 41 rfl w.heap.size 30 i0 (.agg #[.int .i64 0, .int .i64 0]) 2 16 Tryd.underlying41 hi0 hz0 hz1 hz2 rfl (by decide) (.slice G 0 gc) 0 (rcells ([])) rfl HOWN.out ⟨wq.heap.size, 0, none⟩ 1 1 [.int .i64 (b : Int), .int .i64 (y : Int)] rfl rfl HCT.out (by simp [Value.oneCell']) (by unfold maxLen; omega) (by omega) (by have := HB3.out.size; omega) ?_
                     intro v' w3 hown3 hgr3 _ _
                     obtain ⟨G', gc', rfl⟩ := row_slice2 hown3
                     have HO3 := Lib.hid hown3
                     have HB4 := Lib.hid (HB3.out.grown hgr3 HB3.out.size (fun k hk => row_base_lt2 HGW.out.1 hk))
                     clear hown3 hgr3)
        refine ⟨⟨k + 1, 0 + 1, gc', G', by omega, by go_num, rfl, ⟨?_, HB4.out⟩⟩, by simp [intOf]; omega⟩
        rw [HJ.out]
        exact HO3.out
      · subst hS
        obtain ⟨a, x⟩ := r
        rw [List.length_append] at hml
        simp only [List.length_cons, List.length_nil] at hml
        obtain ⟨g, rfl, hgl, hgB, hgf⟩ := own_some HG.out.1 (by omega)
        obtain ⟨hrs, -⟩ := own_rs HG.out.1
        obtain ⟨g2, o2, e, _, _, hg0, hg1⟩ := hrs.at' S'.length (by simp)
        injection e with e
        injection e with e1 e2
        subst e1
        subst e2
        rw [List.getElem_append_right (Nat.le_refl _)] at hg0 hg1
        simp only [Nat.sub_self, List.getElem_cons_zero, Nat.zero_add] at hg0 hg1
        have hgv := HGL.out g rfl
        have HOL := Lib.hid (fun x' => own_last (x' := x') HG.out.1)
        have hax := HJB.out (a, x) (by simp)
        have hyt := HTJ.out
        rw [tot_snoc] at hyt
        simp only at hax hyt
        have hx2 : x ≤ 1000000 := by omega
        have hxy : x + y ≤ 1000000 := by omega
        have HGO := Lib.hid (fun w' => goesOn_any w' a x b y hax.1 hax.2 hx2)
        have hm1 : IntKind.i64.wrap ((m : Int) - 1) = (S'.length : Int) := by rw [IntWalk.i64_in _ (by omega)]; omega
        have hm1' : (m : Int) - 1 = (S'.length : Int) := by omega
        have hm2 : (S'.length : Int) < (m : Int) := by omega
        have hfz := hgf (S'.length * 2 + 1)
        have hoz0 := HOZ.out.c0
        have hoz1 := HOZ.out.c1
        have hozl := HOZ.out.lt
        have HM := Lib.hid hml
        clear hrs hyt hml
        generalize hz : S'.length = z at *
        have HZ := Lib.hid hz
        clear hz
        have hm3 : (0 : Int) ≤ (z : Int) := by omega
        have hm4 : decide ((0 : Int) ≤ (z : Int)) = true := decide_eq_true hm3
        go_upto_region 6 with fail
        generalize hwq : wr.alloc (.cells #[.int .i64 (b : Int), .int .i64 (y : Int)] 30) = wq at *
        clear hwq hc0 hc1 hbb
        generalize wr.heap.size = v at *
        go_region_held3 (fun W' => W'.cell? ⟨g, z * 2, none⟩ = some (.int .i64 (a : Int)) ∧ W'.cell? ⟨g, z * 2 + 1, none⟩ = some (.int .i64 (x : Int)) ∧ W'.cell? ⟨v, 0, none⟩ = some (.int .i64 (b : Int)) ∧ W'.cell? ⟨v, 1, none⟩ = some (.int .i64 (y : Int))) (go_keep)
          (first
          | (go_at_call 42
             with_reducible refine (HGO.out _).mono ?_
             rintro e w1 ⟨rfl, hb⟩
             have HBG := Lib.hid hb
             have hk0 := (hb.cell (p := ⟨g, z * 2, none⟩) hgl).trans hg0
             have hk1 := (hb.cell (p := ⟨g, z * 2 + 1, none⟩) hgl).trans hg1
             have hk2 := (hb.cell (p := ⟨v, 0, none⟩) hozl).trans hoz0
             have hk3 := (hb.cell (p := ⟨v, 1, none⟩) hozl).trans hoz1
             clear hb))
        have HBQ := Lib.hid (below_drew HBG.out)
        have HGW := Lib.hid (show GotR 30 w w1 (some ⟨g, 0, none⟩) m gc (S' ++ [(a, x)]) from ⟨own_keep2 HG.out.1 HBQ.out, HG.out.2.trans (HBQ.out.mono HG.out.2.size)⟩)
        have HFZ := Lib.hid ((HBQ.out.frozen (p := ⟨g, z * 2 + 1, none⟩) hgl).trans hfz)
        have HGL2 := Lib.hid (Nat.lt_of_lt_of_le hgl HBQ.out.size)
        clear HG HOL HOZ hg0 hg1 hfz hoz0 hoz1 hozl hgl hgf HBG hm1 hm4
        by_cases hon : a + x = b
        · rw [decide_eq_true hon]
          have HJ := Lib.hid (HJT.out.trans (jn1_on (show (a, x).1 + (a, x).2 = (b, y).1 from hon)))
          obtain ⟨s, hs⟩ : ∃ s, s = x + y := ⟨_, rfl⟩
          have HS := Lib.hid hs
          have hsum : IntKind.i64.wrap ((x : Int) + (y : Int)) = (s : Int) := by rw [IntWalk.i64_in _ (by omega)]; omega
          have hsum' : (x : Int) + (y : Int) = (s : Int) := by omega
          have hs2 : s ≤ 1000000 := by omega
          have hfz := HFZ.out
          clear hon hs
          have hol := own_last (x' := x + y) HGW.out.1
          rw [HZ.out, ← HS.out] at hol
          have HOL2 := Lib.hid hol
          clear hol
          go_wp2_with fail
          go_region
          clear hsum hsum' hfz
          go_wp2
          refine ⟨⟨k + 1, m, gc, some ⟨g, 0, none⟩, by omega, by go_num, rfl, ⟨?_, (HGW.out.2.setCell (p := ⟨g, z * 2 + 1, none⟩) hgB _).drew⟩⟩, by simp [intOf]; omega⟩
          rw [HJ.out, ← HS.out]
          exact HOL2.out
        · rw [decide_eq_false hon]
          have HJ := Lib.hid (HJT.out.trans (jn1_not (show ¬ (a, x).1 + (a, x).2 = (b, y).1 from hon)))
          clear hon
          have HOWN := Lib.hid (HGW.out.1.alloc (.cells #[.int .i64 (b : Int), .int .i64 (y : Int)] 30))
          have HB3 := Lib.hid (HGW.out.2.alloc HGW.out.2.size (.cells #[.int .i64 (b : Int), .int .i64 (y : Int)] 30))
          have HCT := Lib.hid (cells_two_new w1 (.int .i64 (b : Int)) (.int .i64 (y : Int)) 30)
          go_wp2_with (at_builtin; refine wpList_append_own_at _ rfl (.tmp 36) (.tmp 38) 41 rfl w.heap.size 30 i0 (.agg #[.int .i64 0, .int .i64 0]) 2 16 Tryd.underlying41 hi0 hz0 hz1 hz2 rfl (by decide) (.slice (some ⟨g, 0, none⟩) m gc) m (rcells (S' ++ [(a, x)])) rfl HOWN.out ⟨w1.heap.size, 0, none⟩ 1 1 [.int .i64 (b : Int), .int .i64 (y : Int)] rfl rfl HCT.out (by simp [Value.oneCell']) (by unfold maxLen; omega) (by omega) (by have := HB3.out.size; omega) ?_
                       intro v' w3 hown3 hgr3 _ _
                       obtain ⟨G', gc', rfl⟩ := row_slice2 hown3
                       have HO3 := Lib.hid hown3
                       have HB4 := Lib.hid (HB3.out.grown hgr3 HB3.out.size (fun k hk => row_base_lt2 HGW.out.1 hk))
                       clear hown3 hgr3)
          refine ⟨⟨k + 1, m + 1, gc', G', by omega, by go_num, rfl, ⟨?_, HB4.out⟩⟩, by simp [intOf]; omega⟩
          rw [HJ.out, rcells_snoc]
          exact HO3.out
    · obtain rfl : k = l.length := by omega
      rw [List.take_length] at hgot
      obtain ⟨hrs, hml⟩ := own_rs hgot.1
      have HX := Lib.hid (show RsR w (jn l) (.returned (.slice G m gc)) wr from by
        rw [← hml]
        exact ⟨G, gc, rfl, hrs, hgot.2⟩)
      clear hgot hrs hml
      go_wp2
      go_ret
      exact HX.out
end Rn
end Go.Proofs.YtblibjjnbbleeaaDoor
