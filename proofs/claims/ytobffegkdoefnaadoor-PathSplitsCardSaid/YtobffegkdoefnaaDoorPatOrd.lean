/- Which of two paths stands ahead, the program's and the document's; whether they are the same; whether names are few. -/
import Derived.Test.YtobffegkdoefnaaDoorPatMem
import Derived.Deep.QuietTactic
import Derived.BigQuiet
import Derived.RegionTactic
import Derived.ChangeAlike
namespace Go.Proofs.YtobffegkdoefnaaDoor
open Go.RowKit Go.MapKept
namespace Pat

theorem below_drewN {B : Nat} {a w : World} (h : Below B a w) (n : Nat) : Below B a (w.drewN n) := ⟨h.os, h.tape, h.output, h.size, h.block⟩

/-- 0: the same; below: the first is ahead -/
def cmpT (a b : ByteArray) : Int := if a = b then 0 else if less a b then -1 else 1

set_option maxHeartbeats 1000000 in
theorem cmpT_any (a b : ByteArray) (w : World) : Calls Tryd.prog 27 #[.string a, .string b] w fun e w' => e = .returned (.int .i64 (cmpT a b)) ∧ w' = w := by
  by_cases h : a = b
  · subst h
    have h1 := bl_irr a.toList
    have HC := Lib.hid (show cmpT a a = 0 from if_pos rfl)
    go_enter Tryd.func27, Tryd.ntmps27
    go_wp2
    go_ret
    exact ⟨by rw [HC.out]; rfl, rfl⟩
  · have h0 : ¬ a.toList = b.toList := fun e => h (toList_inj e)
    have h1 : (a.toList == b.toList) = false := by simpa using h0
    by_cases hl : less a b = true
    · have HC := Lib.hid (show cmpT a b = -1 by unfold cmpT; rw [if_neg h, if_pos hl])
      have h2 : Op.bytesLess a.toList b.toList = true := hl
      clear hl
      go_enter Tryd.func27, Tryd.ntmps27
      go_wp2
      go_ret
      exact ⟨by rw [HC.out]; rfl, rfl⟩
    · have HC := Lib.hid (show cmpT a b = 1 by unfold cmpT; rw [if_neg h, if_neg hl])
      have h2 : Op.bytesLess a.toList b.toList = false := (Bool.not_eq_true _).mp hl
      clear hl
      go_enter Tryd.func27, Tryd.ntmps27
      go_wp2
      go_ret
      exact ⟨by rw [HC.out]; rfl, rfl⟩

set_option maxHeartbeats 1000000 in
theorem compare_any (w : World) (A B : Option Addr) (c d : Nat) (x y : List ByteArray) (hx : Txs w A x) (hy : Txs w B y) :
    Calls Tryd.prog 19 #[.slice A x.length c, .slice B y.length d] w fun e w' => e = .returned (.int .i64 (cmpL x y)) ∧ w' = w := by
  have hxl := hx.len
  have hyl := hy.len
  have HX := Lib.hid hx
  have HY := Lib.hid hy
  clear hx hy
  go_enter Tryd.func19, Tryd.ntmps19
  go_wp2
  go_loopw [11] (fun i wr => ∃ k : Nat, k ≤ x.length ∧ k ≤ y.length ∧ i = .int .i64 (k : Int) ∧ wr = w ∧ cmpL x y = cmpL (x.drop k) (y.drop k)) (fun i _ => x.length - (intOf i).toNat)
  case atStart => exact ⟨0, Nat.zero_le _, Nat.zero_le _, rfl, rfl, rfl⟩
  case round =>
    obtain ⟨k, hk, hk', rfl, rfl, hc⟩ := hrel
    have HC := Lib.hid hc
    clear hc
    by_cases hlt : k < x.length
    · by_cases hlt' : k < y.length
      · obtain ⟨b, o, rfl, _, hc0⟩ := HX.out.at' k hlt
        obtain ⟨b', o', rfl, _, hd0⟩ := HY.out.at' k hlt'
        by_cases e : x[k] = y[k]
        · have HS := Lib.hid (HC.out.trans (cmp_same hlt hlt' e))
          generalize x[k] = s at *
          generalize y[k] = t at *
          subst e
          have hz : cmpT s s = 0 := if_pos rfl
          go_wp2_with fail
          refine (cmpT_any _ _ _).mono ?_
          rintro e w' ⟨rfl, rfl⟩
          rw [hz]
          go_wp2
          exact ⟨⟨k + 1, by omega, by omega, by go_num, by first | rfl | trivial, HS.out⟩, by simp [intOf]; omega⟩
        · have HD := Lib.hid (HC.out.trans (cmp_diff hlt hlt' e))
          generalize x[k] = s at *
          generalize y[k] = t at *
          obtain ⟨z, hz, hz0, hzc⟩ : ∃ z : Int, cmpT s t = z ∧ ¬ z = 0 ∧ cmpL x y = z := by
            refine ⟨_, rfl, ?_, ?_⟩
            · unfold cmpT
              rw [if_neg e]
              split <;> decide
            · rw [HD.out]
              unfold cmpT
              rw [if_neg e]
          have hz1 : (z == 0) = false := by simpa using hz0
          have HZ := Lib.hid hzc
          clear hzc
          go_wp2_with fail
          refine (cmpT_any _ _ _).mono ?_
          rintro e w' ⟨rfl, rfl⟩
          rw [hz]
          go_wp2
          go_ret
          exact ⟨by rw [HZ.out]; rfl, rfl⟩
      · obtain rfl : k = y.length := by omega
        obtain ⟨b, o, rfl, _, hc0⟩ := HX.out.at' _ hlt
        have HE := Lib.hid (HC.out.trans (cmp_end hlt (Nat.le_refl _)))
        go_wp2
        go_ret
        exact ⟨by rw [HE.out]; rfl, rfl⟩
    · obtain rfl : k = x.length := by omega
      have HE := Lib.hid (HC.out.trans (cmp_over hk'))
      by_cases hl : x.length < y.length
      · rw [if_pos hl] at HE
        have hl' : (x.length : Int) < (y.length : Int) := by omega
        go_wp2
        go_ret
        exact ⟨by rw [HE.out]; rfl, rfl⟩
      · rw [if_neg hl] at HE
        have hl' : ¬ (x.length : Int) < (y.length : Int) := by omega
        go_wp2
        go_ret
        exact ⟨by rw [HE.out]; rfl, rfl⟩

set_option maxHeartbeats 1000000 in
theorem before_any (w : World) (A B : Option Addr) (c d : Nat) (x y : List ByteArray) (hx : Txs w A x) (hy : Txs w B y) :
    Calls Tryd.prog 11 #[.slice A x.length c, .slice B y.length d] w fun e w' => e = .returned (.bool (bef x y)) ∧ w' = w := by
  have HC := Lib.hid (compare_any w A B c d x y hx hy)
  have HB := Lib.hid (cmpL_bef x y)
  clear hx hy
  go_enter Tryd.func11, Tryd.ntmps11
  generalize cmpL x y = z at *
  go_wp2_with fail
  refine HC.out.mono ?_
  rintro e w' ⟨rfl, rfl⟩
  go_wp2
  go_ret
  exact ⟨by rw [← HB.out]; rfl, rfl⟩

set_option maxHeartbeats 2000000 in
theorem refBefore_any (w : World) (A B : Option Addr) (c d : Nat) (x y : List ByteArray) (hx : Txs w A x) (hy : Txs w B y) :
    Calls Tryd.prog 17 #[.slice A x.length c, .slice B y.length d] w fun e w' => e = .returned (.bool (bef x y)) ∧ ∃ n, w' = w.drewN n := by
  have hxl := hx.len
  have hyl := hy.len
  have HX := Lib.hid hx
  have HY := Lib.hid hy
  clear hx hy
  go_enter Tryd.func17, Tryd.ntmps17
  go_wp2
  go_loopw [8] (fun i wr => ∃ k : Nat, k ≤ x.length ∧ k ≤ y.length ∧ i = .int .i64 (k : Int) ∧ (∃ n, wr = w.drewN n) ∧ bef x y = bef (x.drop k) (y.drop k)) (fun i _ => x.length - (intOf i).toNat)
  case atStart => exact ⟨0, Nat.zero_le _, Nat.zero_le _, rfl, ⟨0, rfl⟩, rfl⟩
  case round =>
    obtain ⟨k, hk, hk', rfl, ⟨n, hw⟩, hc⟩ := hrel
    have HC := Lib.hid hc
    clear hc
    by_cases hlt : k < x.length
    · by_cases hlt' : k < y.length
      · obtain ⟨b, o, rfl, _, hc0⟩ := (show Txs wr A x by rw [hw]; exact HX.out.drewN n).at' k hlt
        obtain ⟨b', o', rfl, _, hd0⟩ := (show Txs wr B y by rw [hw]; exact HY.out.drewN n).at' k hlt'
        have HW := Lib.hid hw
        clear hw
        have hi0 : (0 : Int) ≤ (k : Int) := by omega
        have hi1 : (k : Int) < (x.length : Int) := by omega
        have hi2 : (k : Int) < (y.length : Int) := by omega
        by_cases e : x[k] = y[k]
        · have HS := Lib.hid (HC.out.trans (bef_same hlt hlt' e))
          generalize x[k] = s at *
          generalize y[k] = t at *
          subst e
          go_wp2_with fail
          go_quiet (fail)
          go_wp2
          refine ⟨⟨k + 1, by omega, by omega, by go_num, ?_, HS.out⟩, by simp [intOf]; omega⟩
          rw [HW.out]
          exact ⟨n + nq, by rw [World.drewN_drewN]⟩
        · have HZ := Lib.hid (show bef x y = Op.bytesLess x[k].toList y[k].toList from HC.out.trans (bef_diff hlt hlt' e))
          generalize x[k] = s at *
          generalize y[k] = t at *
          have h0 : ¬ s.toList = t.toList := fun h => e (toList_inj h)
          have h1 : (s.toList == t.toList) = false := by simpa using h0
          go_wp2_with fail
          go_quiet (fail)
          go_wp2_with fail
          go_quiet (fail)
          go_wp2
          go_ret
          refine ⟨by rw [HZ.out]; rfl, ?_⟩
          rw [HW.out]
          exact ⟨_, by rw [World.drewN_drewN, World.drewN_drewN]⟩
      · obtain rfl : k = y.length := by omega
        have HE := Lib.hid (HC.out.trans (bef_end (Nat.le_refl _)))
        have HW := Lib.hid hw
        clear hw
        go_wp2
        go_ret
        exact ⟨by rw [HE.out]; rfl, n, HW.out⟩
    · obtain rfl : k = x.length := by omega
      have HE := Lib.hid (HC.out.trans (bef_over hk'))
      have HW := Lib.hid hw
      clear hw
      have hd : decide ((x.length : Int) < (y.length : Int)) = decide (x.length < y.length) := by
        by_cases h : x.length < y.length
        · rw [decide_eq_true h, decide_eq_true (by omega)]
        · rw [decide_eq_false h, decide_eq_false (by omega)]
      have HDD := Lib.hid hd
      clear hd
      go_wp2
      go_ret
      exact ⟨by rw [HE.out, ← HDD.out]; rfl, n, HW.out⟩

set_option maxHeartbeats 2000000 in
theorem same_any (w : World) (A B : Option Addr) (c d : Nat) (x y : List ByteArray) (hx : Txs w A x) (hy : Txs w B y) :
    Calls Tryd.prog 12 #[.slice A x.length c, .slice B y.length d] w fun e w' => e = .returned (.bool (decide (x = y))) ∧ ∃ n, w' = w.drewN n := by
  have hxl := hx.len
  have hyl := hy.len
  have HX := Lib.hid hx
  have HY := Lib.hid hy
  clear hx hy
  by_cases hl : x.length = y.length
  · have hne : ((x.length : Int) == (y.length : Int)) = true := by rw [hl]; exact beq_self_eq_true _
    go_enter Tryd.func12, Tryd.ntmps12
    go_wp2
    go_loopw [13] (fun i wr => ∃ k : Nat, k ≤ x.length ∧ i = .int .i64 (k : Int) ∧ (∃ n, wr = w.drewN n) ∧ x.take k = y.take k) (fun i _ => x.length - (intOf i).toNat)
    case atStart => exact ⟨0, Nat.zero_le _, rfl, ⟨0, rfl⟩, rfl⟩
    case round =>
      obtain ⟨k, hk, rfl, ⟨n, hw⟩, hc⟩ := hrel
      have HC := Lib.hid hc
      clear hc
      by_cases hlt : k < x.length
      · have hlt' : k < y.length := by omega
        obtain ⟨b, o, rfl, _, hc0⟩ := (show Txs wr A x by rw [hw]; exact HX.out.drewN n).at' k hlt
        obtain ⟨b', o', rfl, _, hd0⟩ := (show Txs wr B y by rw [hw]; exact HY.out.drewN n).at' k hlt'
        have HW := Lib.hid hw
        clear hw
        have hi0 : (0 : Int) ≤ (k : Int) := by omega
        have hi1 : (k : Int) < (x.length : Int) := by omega
        have hi2 : (k : Int) < (y.length : Int) := by omega
        by_cases e : x[k] = y[k]
        · have HS := Lib.hid (take_same hlt hlt' e HC.out)
          generalize x[k] = s at *
          generalize y[k] = t at *
          subst e
          go_wp2_with fail
          go_quiet (fail)
          go_wp2
          refine ⟨⟨k + 1, by omega, by go_num, ?_, HS.out⟩, by simp [intOf]; omega⟩
          rw [HW.out]
          exact ⟨n + nq, by rw [World.drewN_drewN]⟩
        · have HZ := Lib.hid (show decide (x = y) = false from decide_eq_false (fun h => e (by subst h; rfl)))
          generalize x[k] = s at *
          generalize y[k] = t at *
          have h0 : ¬ s.toList = t.toList := fun h => e (toList_inj h)
          have h1 : (s.toList == t.toList) = false := by simpa using h0
          go_wp2_with fail
          go_quiet (fail)
          go_wp2
          go_ret
          refine ⟨by rw [HZ.out]; rfl, ?_⟩
          rw [HW.out]
          exact ⟨_, by rw [World.drewN_drewN]⟩
      · obtain rfl : k = x.length := by omega
        have HE := Lib.hid (show decide (x = y) = true from decide_eq_true (by
          have := HC.out
          rw [List.take_length, hl, List.take_length] at this
          exact this))
        have HW := Lib.hid hw
        clear hw
        go_wp2
        go_ret
        exact ⟨by rw [HE.out]; rfl, n, HW.out⟩
  · have hne : ((x.length : Int) == (y.length : Int)) = false := beq_eq_false_iff_ne.2 (by omega)
    have hne2 : ¬ (x.length : Int) = (y.length : Int) := by omega
    have HE := Lib.hid (show decide (x = y) = false from decide_eq_false (fun h => hl (by rw [h])))
    go_enter Tryd.func12, Tryd.ntmps12
    go_wp2
    go_ret
    exact ⟨by rw [HE.out]; rfl, 0, rfl⟩

/-- few, and short -/
def Few (l : List ByteArray) : Prop := (∀ s ∈ l, s.size ≤ 60) ∧ l.length ≤ 70
instance (l : List ByteArray) : Decidable (Few l) := by unfold Few; infer_instance
def few (l : List ByteArray) : Bool := decide (Few l)

set_option maxHeartbeats 1000000 in
theorem few_any (w : World) (A : Option Addr) (c : Nat) (l : List ByteArray) (h : Txs w A l) :
    Calls Tryd.prog 9 #[.slice A l.length c] w fun r w' => r = .returned (.bool (few l)) ∧ w' = w := by
  have hn := h.len
  have H := Lib.hid h
  clear h
  go_enter Tryd.func9, Tryd.ntmps9
  go_wp2
  go_loopw [7] (fun i wr => ∃ m : Nat, m ≤ l.length ∧ i = .int .i64 (m : Int) ∧ wr = w ∧ ∀ e ∈ l.take m, e.size ≤ 60) (fun i _ => l.length - (intOf i).toNat)
  case atStart => exact ⟨0, Nat.zero_le _, rfl, rfl, fun e he => by simp at he⟩
  case round =>
    obtain ⟨m, hm, rfl, rfl, hg⟩ := hrel
    have HG := Lib.hid hg
    clear hg
    by_cases hlt : m < l.length
    · obtain ⟨b, o, rfl, hbb, hc0⟩ := H.out.at' m hlt
      have hs := H.out.size _ (List.getElem_mem hlt)
      have HT := Lib.hid (show l.take (m + 1) = l.take m ++ [l[m]] from List.take_succ_eq_append_getElem hlt)
      have HM := Lib.hid (List.getElem_mem hlt)
      generalize l[m] = s at *
      by_cases h60 : s.size ≤ 60
      · go_wp2
        refine ⟨⟨m + 1, by omega, by go_num, by first | rfl | trivial, ?_⟩, by simp [intOf]; omega⟩
        rw [HT.out]
        intro e he
        rcases List.mem_append.1 he with h1 | h1
        · exact HG.out e h1
        · obtain rfl : e = s := by simpa using h1
          exact h60
      · have HF := Lib.hid (show few l = false from decide_eq_false (fun h => h60 (h.1 _ HM.out)))
        go_wp2
        go_ret
        exact ⟨by rw [HF.out]; rfl, rfl⟩
    · obtain rfl : m = l.length := by omega
      rw [List.take_length] at HG
      by_cases h70 : l.length ≤ 70
      · have HF := Lib.hid (show few l = true from decide_eq_true ⟨HG.out, h70⟩)
        have hd : decide ((l.length : Int) ≤ 70) = true := decide_eq_true (by omega)
        go_wp2
        go_ret
        exact ⟨by rw [HF.out, ← hd]; rfl, rfl⟩
      · have HF := Lib.hid (show few l = false from decide_eq_false (fun h => h70 h.2))
        have hd : decide ((l.length : Int) ≤ 70) = false := decide_eq_false (by omega)
        go_wp2
        go_ret
        exact ⟨by rw [HF.out, ← hd]; rfl, rfl⟩
end Pat
end Go.Proofs.YtobffegkdoefnaaDoor
