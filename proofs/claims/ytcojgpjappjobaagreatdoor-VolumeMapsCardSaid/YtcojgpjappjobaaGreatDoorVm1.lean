/- Texts laid together: VolDel, VolDel2, VolChg, BmCopyLaw, VolMap, VolRec, VolTurn, VolMapsLaw. -/
import Derived.Test.YtcojgpjappjobaaGreatDoorVi1
import Derived.Lib.SliceRun
import Derived.Lib.LazyBuf
import Derived.Test.YtcojgpjappjobaaGreatDoorVs2
import Derived.Test.YtcojgpjappjobaaGreatDoorVr1
import Derived.Test.YtcojgpjappjobaaGreatDoorVs7
import Derived.Test.YtcojgpjappjobaaGreatDoorVs9
import Derived.Test.YtcojgpjappjobaaGreatDoorVs8
import Derived.Deep.DeepCutAuto
import Derived.Deep.CutBlock
import Derived.Test.YtcojgpjappjobaaGreatDoorVs1
import Derived.Test.YtcojgpjappjobaaGreatDoorVs3
import Derived.Test.YtcojgpjappjobaaGreatDoorVs4
import Derived.Test.YtcojgpjappjobaaGreatDoorVs5
import Derived.Test.YtcojgpjappjobaaGreatDoorVs6
import Derived.Test.YtcojgpjappjobaaGreatDoorVb1
/- slices.DeleteFunc at stores. -/
namespace Go.Proofs.YtcojgpjappjobaaGreatDoor
open Go.RowKit Go.MapKept
namespace Vol
/-- the stores that a truth does not strike -/
def kep (d : Nat × Nat → Bool) (l : List (Nat × Nat)) : List (Nat × Nat) := l.filter fun p => !d p
/-- noughts over stores -/
def twos : Nat → List Value
  | 0 => []
  | k + 1 => .int .i64 0 :: .int .u64 0 :: twos k
theorem twos_len (k : Nat) : (twos k).length = 2 * k := by
  induction k with
  | zero => rfl
  | succ k ih => simp [twos, ih]; omega
theorem twos_one (k : Nat) : ∀ v ∈ twos k, v.oneCell' = true := by
  induction k with
  | zero => intro v hv; cases hv
  | succ k ih =>
    intro v hv
    simp only [twos, List.mem_cons] at hv
    rcases hv with rfl | rfl | hv
    · rfl
    · rfl
    · exact ih v hv

section
variable {Q : Nat → Prop} {w : World} {a : Nat} {W : List Nat} {st sn : Nat}
set_option maxHeartbeats 2000000 in
set_option maxRecDepth 100000 in
theorem gone_any (h : Up Q w a W st sn) (bm : Nat) (hb : Bx w bm a) (p x : Nat) :
    Calls Tryz.prog 136 #[.agg #[.int .i64 (p : Int), .int .u64 (x : Int)], .pointer (some ⟨bm, 0, none⟩)] w fun r w' => r = .returned (.bool (decide (W[p]?.getD 0 = x))) ∧ Below w.heap.size w w' := by
  have HB := Lib.hid ((Below.refl w.heap.size w).alloc (Nat.le_refl _) (.cells #[.int .i64 (p : Int), .int .u64 (x : Int)] 157))
  have HX := Lib.hid (show Sts _ _ [(p, x)] from sts_one w p x)
  have H := Lib.hid (h.keep HB.out)
  have HM := Lib.hid (hb.keep HB.out)
  clear h hb
  go_enter Tryz.func136, Tryz.ntmps136
  go_wp2_with fail
  generalize w.alloc (.cells #[.int .i64 (p : Int), .int .u64 (x : Int)] 157) = w1 at *
  have hc := HM.out.c0
  have hl := HM.out.lt
  obtain ⟨h0, h1⟩ := HX.out.at' 0 (by simp)
  simp at h0 h1
  have hl2 := HX.out.lt
  go_region_held3 (fun W' => W'.cell? ⟨bm, 0, none⟩ = some (.pointer (some ⟨a, 0, none⟩)) ∧ W'.cell? ⟨w.heap.size, 0, none⟩ = some (.int .i64 (p : Int)) ∧ W'.cell? ⟨w.heap.size, 1, none⟩ = some (.int .u64 (x : Int))) (go_keep)
    (first
    | (go_at_call 67
       with_reducible refine (up_load (H.out.keep (bel_d w1)) p).mono ?_
       rintro r w2 ⟨rfl, rfl⟩))
  have HB2 := Lib.hid (HB.out.trans ((bel_d w1).mono HB.out.size))
  have he : (((W[p]?.getD 0 : Nat) : Int) == (x : Int)) = decide (W[p]?.getD 0 = x) := by
    by_cases h : W[p]?.getD 0 = x
    · simp [h]
    · rw [decide_eq_false h]
      exact beq_eq_false_iff_ne.2 (by omega)
  have HE := Lib.hid he
  clear he
  go_wp2
  go_ret
  exact ⟨congrArg (fun b => Ending.returned (.bool b)) HE.out, HB2.out⟩
end
end Vol
end Go.Proofs.YtcojgpjappjobaaGreatDoor
/- slices.IndexFunc at stores. -/
namespace Go.Proofs.YtcojgpjappjobaaGreatDoor
open Go.RowKit Go.MapKept
namespace Vol
section
variable {w : World}
set_option maxHeartbeats 2000000 in
set_option maxRecDepth 100000 in
theorem index_any (w1 : World) (bm g c : Nat) (l : List (Nat × Nat)) (d : Nat × Nat → Bool) (hS : Sts w g l) (hbel : Below w1.heap.size w1 w) (hl : l.length ≤ 4194304)
    (HF : ∀ w', Below w1.heap.size w1 w' → ∀ p x : Nat, Calls Tryz.prog 136 #[.agg #[.int .i64 (p : Int), .int .u64 (x : Int)], .pointer (some ⟨bm, 0, none⟩)] w' fun r w'' => r = .returned (.bool (d (p, x))) ∧ Below w'.heap.size w' w'') :
    Calls Tryz.prog 168 #[.slice (some ⟨g, 0, none⟩) l.length c, .func (.func 136) #[] #[.pointer (some ⟨bm, 0, none⟩)]] w fun r w' =>
      ((r = .returned (.int .i64 (-1)) ∧ ∀ p ∈ l, d p = false) ∨ ∃ k, k < l.length ∧ r = .returned (.int .i64 (k : Int)) ∧ (∀ x, l[k]? = some x → d x = true) ∧ ∀ j x, j < k → l[j]? = some x → d x = false) ∧ Below w.heap.size w w' := by
  have HS := Lib.hid hS
  have HFF := Lib.hid HF
  have HBL := Lib.hid hbel
  clear hS HF hbel
  go_enter Tryz.func168, Tryz.ntmps168
  go_wp2_with fail
  go_loopw [8] (fun i wr => ∃ (k : Nat), k ≤ l.length ∧ i = .int .i64 (k : Int) ∧ (∀ j x, j < k → l[j]? = some x → d x = false) ∧ Below w.heap.size w wr) (fun i _ => l.length - (intOf i).toNat)
  case atStart => exact ⟨0, Nat.zero_le _, rfl, fun j x hj => absurd hj (Nat.not_lt_zero _), Below.refl _ _⟩
  case round =>
    obtain ⟨k, hk, rfl, hnone, hb⟩ := hrel
    have HN := Lib.hid hnone
    have HB := Lib.hid hb
    clear hnone hb
    by_cases hlt : k < l.length
    · obtain ⟨hc0, hc1⟩ := (HS.out.keep HB.out).at' k hlt
      have hgl := (HS.out.keep HB.out).lt
      have HE := Lib.hid (show l[k]? = some (l[k].1, l[k].2) from List.getElem?_eq_getElem hlt)
      generalize l[k].1 = p at *
      generalize l[k].2 = x at *
      have HC := Lib.hid (HFF.out wr (HBL.out.trans (HB.out.mono HBL.out.size)) p x)
      have hi0 : (0 : Int) ≤ (k : Int) := by omega
      have hi1 : (k : Int) < (l.length : Int) := by omega
      go_wp2_with fail
      refine HC.out.mono ?_
      rintro r w2 ⟨rfl, hb⟩
      have HB2 := Lib.hid (HB.out.trans (hb.mono HB.out.size))
      clear hb HC
      cases hd : d (p, x) with
      | false =>
        have HD := Lib.hid hd
        clear hd
        go_wp2
        refine ⟨⟨k + 1, by omega, by go_num, fun j y hj hy => ?_, HB2.out⟩, by simp [intOf]; omega⟩
        by_cases he : j = k
        · subst he
          rw [HE.out] at hy
          injection hy with hy
          subst hy
          exact HD.out
        · exact HN.out j y (by omega) hy
      | true =>
        have HD := Lib.hid hd
        clear hd
        go_wp2
        go_ret
        refine ⟨.inr ⟨k, hlt, rfl, fun y hy => ?_, HN.out⟩, HB2.out⟩
        rw [HE.out] at hy
        injection hy with hy
        subst hy
        exact HD.out
    · obtain rfl : l.length = k := by omega
      go_wp2
      go_ret
      refine ⟨.inl ⟨rfl, fun p hp => ?_⟩, HB.out⟩
      obtain ⟨j, hj, rfl⟩ := List.getElem_of_mem hp
      exact HN.out j _ hj (List.getElem?_eq_getElem hj)
/-- the struck ones are gone up to the j-th, what is kept stands ahead -/
structure Kp (d : Nat × Nat → Bool) (l cur : List (Nat × Nat)) (i j : Nat) : Prop where
  len : cur.length = l.length
  front : cur.take i = kep d (l.take j)
  back : cur.drop j = l.drop j
  ij : i < j
  jl : j ≤ l.length
theorem kep_snoc (d : Nat × Nat → Bool) (l : List (Nat × Nat)) {j : Nat} {y : Nat × Nat} (h : l[j]? = some y) : kep d (l.take (j + 1)) = kep d (l.take j) ++ if d y = true then [] else [y] := by
  unfold kep
  rw [List.take_add_one, h, List.filter_append]
  cases hd : d y <;> simp [hd]
theorem Kp.get {d : Nat × Nat → Bool} {l cur : List (Nat × Nat)} {i j : Nat} (h : Kp d l cur i j) : cur[j]? = l[j]? := by
  have := congrArg (fun l => l[0]?) h.back
  simpa using this
theorem Kp.skip {d : Nat × Nat → Bool} {l cur : List (Nat × Nat)} {i j : Nat} (h : Kp d l cur i j) (hj : j < l.length) {y : Nat × Nat} (hy : l[j]? = some y) (hd : d y = true) : Kp d l cur i (j + 1) := by
  refine ⟨h.len, ?_, ?_, by have := h.ij; omega, hj⟩
  · rw [kep_snoc d l hy, if_pos hd, List.append_nil, h.front]
  · rw [← List.drop_drop, h.back, List.drop_drop]
theorem Kp.keep {d : Nat × Nat → Bool} {l cur : List (Nat × Nat)} {i j : Nat} (h : Kp d l cur i j) (hj : j < l.length) {y : Nat × Nat} (hy : l[j]? = some y) (hd : d y = false) : Kp d l (cur.set i y) (i + 1) (j + 1) := by
  have hl := h.len
  have hij := h.ij
  refine ⟨by rw [List.length_set, h.len], ?_, ?_, by omega, hj⟩
  · rw [kep_snoc d l hy, if_neg (by simp [hd]), ← h.front, List.take_add_one, List.getElem?_set_self (by omega), List.take_set_of_le (Nat.le_refl i)]
    rfl
  · rw [List.drop_set_of_lt (by omega), ← List.drop_drop, h.back, List.drop_drop]
theorem kp_start {d : Nat × Nat → Bool} {l : List (Nat × Nat)} {k : Nat} (hk : k < l.length) (hyes : ∀ x, l[k]? = some x → d x = true) (hno : ∀ j x, j < k → l[j]? = some x → d x = false) : Kp d l l k (k + 1) := by
  refine ⟨rfl, ?_, rfl, by omega, hk⟩
  rw [kep_snoc d l (List.getElem?_eq_getElem hk), if_pos (hyes _ (List.getElem?_eq_getElem hk)), List.append_nil]
  unfold kep
  refine (List.filter_eq_self.2 fun p hp => ?_).symm
  obtain ⟨j, hj, rfl⟩ := List.getElem_of_mem hp
  rw [List.length_take] at hj
  rw [hno j _ (by omega) (by rw [List.getElem_take]; exact List.getElem?_eq_getElem (by omega))]
  rfl
theorem Kp.done {d : Nat × Nat → Bool} {l cur : List (Nat × Nat)} {i j : Nat} (h : Kp d l cur i j) (hj : j = l.length) : cur.take i = kep d l ∧ (kep d l).length = i := by
  have h1 := h.front
  rw [hj, List.take_length] at h1
  refine ⟨h1, ?_⟩
  rw [← h1, List.length_take]
  have := h.ij
  have := h.len
  omega
theorem stc_two {cur : List (Nat × Nat)} {L j : Nat} {y : Nat × Nat} (hj : j < L) (hy : cur[j]? = some y) : stc cur L (j * 2) = .int .i64 (y.1 : Int) ∧ stc cur L (j * 2 + 1) = .int .u64 (y.2 : Int) := by
  unfold stc
  rw [if_pos (by omega), if_pos (by omega), if_pos (by omega), if_neg (by omega), show j * 2 / 2 = j by omega, show (j * 2 + 1) / 2 = j by omega, hy]
  exact ⟨rfl, rfl⟩
theorem stc_set {cur : List (Nat × Nat)} {L i p x : Nat} (hi : i < L) (hl : cur.length = L) (j : Nat) : (if j = i * 2 + 1 then Value.int .u64 (x : Int) else if j = i * 2 then Value.int .i64 (p : Int) else stc cur L j) = stc (cur.set i (p, x)) L j := by
  by_cases h1 : j = i * 2 + 1
  · subst h1
    rw [if_pos rfl, (stc_two hi (List.getElem?_set_self (by omega))).2]
  · rw [if_neg h1]
    by_cases h2 : j = i * 2
    · subst h2
      rw [if_pos rfl, (stc_two hi (List.getElem?_set_self (by omega))).1]
    · rw [if_neg h2]
      unfold stc
      rw [List.getElem?_set_ne (by omega)]
theorem twos_get : ∀ (n i : Nat), i < 2 * n → (twos n)[i]? = some (if i % 2 = 0 then .int .i64 0 else .int .u64 0)
  | 0, i, h => by omega
  | n + 1, i, h => by
    match i with
    | 0 => rfl
    | 1 => rfl
    | i + 2 =>
      have := twos_get n i (by omega)
      simp only [twos, List.getElem?_cons_succ]
      rw [this, show (i + 2) % 2 = i % 2 by omega]
theorem zeros_two (n : Nat) : (Builtin.zeroCells (Value.agg #[.int .i64 0, .int .u64 0]).cells n).toList = twos n := by
  have hz : (Value.agg #[.int .i64 0, .int .u64 0]).cells = #[.int .i64 0, .int .u64 0] := rfl
  rw [hz]
  apply List.ext_getElem?
  intro i
  by_cases hi : i < 2 * n
  · rw [twos_get n i hi]
    have h2 : i % 2 = 0 ∨ i % 2 = 1 := by omega
    have h3 : i < n * 2 := by omega
    rcases h2 with h | h <;> simp [Builtin.zeroCells, h, h3]
  · rw [List.getElem?_eq_none (by simp [Builtin.zeroCells]; omega), List.getElem?_eq_none (by rw [twos_len]; omega)]
theorem store_zero : (Tryz.t157).zero = some (.agg #[.int .i64 0, .int .u64 0]) := by kernel_rfl
theorem run_clear_two (w : World) (ty : TypeId) (b o n c : Nat) (hn : 0 < n) (hc : ∀ j, j < 2 * n → (w.cell? ⟨b, o + j, none⟩).isSome = true) (hf : ∀ j, j < 2 * n → w.frozen? ⟨b, o + j, none⟩ = false) :
    (Builtin.clear_ #[149] ty #[.slice (some ⟨b, o, none⟩) n c]).run Tryz.prog w = .ok (.tuple #[]) (w.setCells b o (twos n)) := by
  have hv : ∀ w, (zeroValue 157).run Tryz.prog w = .ok (.agg #[.int .i64 0, .int .u64 0]) w := fun w => by
    simp [zeroValue, store_zero]
  have hst := run_storeCells_cells (P := Tryz.prog) b o (twos n) 0 w (by simpa [twos_len] using hc) (by simpa [twos_len] using hf) (twos_one n)
  simp only [Nat.add_zero] at hst
  obtain ⟨m, rfl⟩ : ∃ m, n = m + 1 := ⟨n - 1, by omega⟩
  simp [Builtin.clear_, run_underlying Tryz.underlying149, hv, zeros_two, hst]

set_option maxHeartbeats 4000000 in
set_option maxRecDepth 100000 in
theorem delete_any (w1 : World) (bm g L : Nat) (l : List (Nat × Nat)) (d : Nat × Nat → Bool) (hrow : w.rowIs g 157 (L * 2) (stc l L)) (hll : l.length = L) (hg : w1.heap.size ≤ g) (hbel : Below w1.heap.size w1 w) (hl : L ≤ 4194304)
    (HF : ∀ w', Below w1.heap.size w1 w' → ∀ p x : Nat, Calls Tryz.prog 136 #[.agg #[.int .i64 (p : Int), .int .u64 (x : Int)], .pointer (some ⟨bm, 0, none⟩)] w' fun r w'' => r = .returned (.bool (d (p, x))) ∧ Below w'.heap.size w' w'') :
    Calls Tryz.prog 135 #[.slice (some ⟨g, 0, none⟩) L L, .func (.func 136) #[] #[.pointer (some ⟨bm, 0, none⟩)]] w fun r w' =>
      r = .returned (.slice (some ⟨g, 0, none⟩) (kep d l).length L) ∧ Sts w' g (kep d l) ∧ Below w1.heap.size w1 w' := by
  have hIX := index_any w1 bm g L l d (sts_row hrow hll) hbel (by omega) HF
  rw [hll] at hIX
  have HIX := Lib.hid hIX
  have HR := Lib.hid hrow
  have HFF := Lib.hid HF
  have HBL := Lib.hid hbel
  have HLL := Lib.hid hll
  clear hIX hrow HF hbel hll
  go_enter Tryz.func135, Tryz.ntmps135
  go_wp2_with fail
  refine HIX.out.mono ?_
  rintro r w2 ⟨(⟨rfl, hnone⟩ | ⟨k, hk, rfl, hyes, hno⟩), hb⟩
  · have hkep : kep d l = l := by
      unfold kep
      rw [List.filter_eq_self]
      intro p hp
      rw [hnone p hp]
      rfl
    have HK := Lib.hid hkep
    have HB2 := Lib.hid (HBL.out.trans (hb.mono HBL.out.size))
    have HS2 := Lib.hid ((sts_row HR.out HLL.out).keep hb)
    clear hb hnone hkep
    go_wp2
    go_ret
    rw [HK.out, HLL.out]
    exact ⟨rfl, HS2.out, HB2.out⟩
  · have hk2 : ((k : Int) == -1) = false := beq_eq_false_iff_ne.2 (by omega)
    have HB2 := Lib.hid (HBL.out.trans (hb.mono HBL.out.size))
    have HR2 := Lib.hid (HR.out.of_block (hb.block g HR.out.lt))
    have HK0 := Lib.hid (kp_start (by rw [HLL.out]; exact hk) hyes hno)
    clear hb HIX HR hyes hno
    go_wp2_with fail
    go_loopw [5, 6, 7] (fun si sj _ wr => ∃ (i j : Nat) (cur : List (Nat × Nat)), si = .int .i64 (i : Int) ∧ sj = .int .i64 (j : Int) ∧ Kp d l cur i j ∧ wr.rowIs g 157 (L * 2) (stc cur L) ∧ Below w1.heap.size w1 wr) (fun _ sj _ _ => L - (intOf sj).toNat)
    case atStart => exact ⟨k, k + 1, l, rfl, by go_num, HK0.out, HR2.out, HB2.out⟩
    case round =>
      obtain ⟨i, j, cur, rfl, rfl, hkp, hrow, hb⟩ := hrel
      have HKP := Lib.hid hkp
      have HROW := Lib.hid hrow
      have HB := Lib.hid hb
      have hij := hkp.ij
      have hjl := hkp.jl
      rw [HLL.out] at hjl
      have hgl := hrow.lt
      clear hkp hrow hb HK0 HR2 HB2 hk2
      by_cases hlt : j < L
      · obtain ⟨y, hy⟩ : ∃ y, l[j]? = some y := ⟨l[j]'(by rw [HLL.out]; exact hlt), List.getElem?_eq_getElem _⟩
        obtain ⟨p, x⟩ := y
        have HY := Lib.hid hy
        have hs2 := stc_two hlt (HKP.out.get.trans hy)
        have hc0 := HROW.out.cell (i := j * 2) (by omega)
        have hc1 := HROW.out.cell (i := j * 2 + 1) (by omega)
        rw [hs2.1] at hc0
        rw [hs2.2] at hc1
        clear hs2 hy
        have hi0 : (0 : Int) ≤ (j : Int) := by omega
        have hi1 : (j : Int) < (L : Int) := by omega
        have hba := (Below.refl wr.heap.size wr).alloc (Nat.le_refl _) (.cells #[.int .i64 (p : Int), .int .u64 (x : Int)] 157)
        have HS3 := Lib.hid (show Sts _ _ [(p, x)] from sts_one wr p x)
        have HR3 := Lib.hid (HROW.out.of_block (hba.block g hgl))
        have HB3 := Lib.hid (HB.out.trans (hba.mono HB.out.size))
        clear hba
        go_wp2_with fail
        generalize wr.alloc (.cells #[.int .i64 (p : Int), .int .u64 (x : Int)] 157) = w3 at *
        generalize wr.heap.size = bv at *
        refine (HFF.out w3 HB3.out p x).mono ?_
        rintro r w4 ⟨rfl, hb⟩
        have HS4 := Lib.hid (HS3.out.keep hb)
        have HR4 := Lib.hid (HR3.out.of_block (hb.block g HR3.out.lt))
        have HB4 := Lib.hid (HB3.out.trans (hb.mono HB3.out.size))
        clear hb HS3 HR3 HB3 hc0 hc1
        have hv0 := (HS4.out.at' 0 (by simp)).1
        have hv1 := (HS4.out.at' 0 (by simp)).2
        simp at hv0 hv1
        have hvl := HS4.out.lt
        cases hd : d (p, x) with
        | true =>
          have HD := Lib.hid hd
          clear hd
          go_wp2
          refine ⟨⟨i, j + 1, cur, rfl, by go_num, HKP.out.skip (by rw [HLL.out]; exact hlt) HY.out HD.out, HR4.out, HB4.out⟩, by simp [intOf]; omega⟩
        | false =>
          have HD := Lib.hid hd
          clear hd
          have hil : i < L := by omega
          have hf0 := HR4.out.frozen (i * 2)
          have hf1 := HR4.out.frozen (i * 2 + 1)
          obtain ⟨z, hz⟩ : ∃ z, cur[i]? = some z := ⟨cur[i]'(by rw [HKP.out.len, HLL.out]; exact hil), List.getElem?_eq_getElem _⟩
          have hs2 := stc_two hil hz
          have hd0 := HR4.out.cell (i := i * 2) (by omega)
          have hd1 := HR4.out.cell (i := i * 2 + 1) (by omega)
          rw [hs2.1] at hd0
          rw [hs2.2] at hd1
          obtain ⟨z0, z1⟩ := z
          clear hs2 hz
          have hi2 : (0 : Int) ≤ (i : Int) := by omega
          have hi3 : (i : Int) < (L : Int) := by omega
          have hgl4 := HR4.out.lt
          have HL2 := Lib.hid (show cur.length = L by rw [HKP.out.len, HLL.out])
          go_wp2
          refine ⟨⟨i + 1, j + 1, cur.set i (p, x), by go_num, by go_num, HKP.out.keep (by rw [HLL.out]; exact hlt) HY.out HD.out, ?_, ?_⟩, by simp [intOf]; omega⟩
          · exact ((HR4.out.set (i * 2) (.int .i64 (p : Int))).set (i * 2 + 1) (.int .u64 (x : Int))).congr (fun t _ => stc_set hil HL2.out t)
          · exact (HB4.out.setCell (by exact hg) _).setCell (by exact hg) _
      · obtain rfl : j = L := by omega
        have hil : i < j := hij
        have HDN := Lib.hid (HKP.out.done HLL.out.symm)
        have hlen := HKP.out.len
        rw [HLL.out] at hlen
        have hcl := fun ty => run_clear_two wr ty g (i * 2) (j - i) (j - i) (by omega) (fun t ht => by rw [HROW.out.cell (by omega)]; rfl) (fun t _ => HROW.out.frozen _)
        have HLN := Lib.hid hlen
        have hi2 : (0 : Int) ≤ (i : Int) := by omega
        have hi3 : (i : Int) ≤ (j : Int) := by omega
        have hne : ¬ j = i := by omega
        have HCL := Lib.hid hcl
        clear hlen hcl
        have hcl := fun ty => HCL.out ty
        go_wp2
        go_ret
        have hr := rowIs_setCells (twos (j - i)) (i * 2) wr _ HROW.out
        refine ⟨?_, ⟨hr.lt, fun t ht => ?_⟩, below_setCells hg _ _ _ HB.out⟩
        · rw [HDN.out.2]
          rfl
        have hti : t < i := by have := HDN.out.2; omega
        have hct : cur[t]? = some ((kep d l)[t]) := by
          have h1 : (cur.take i)[t]? = cur[t]? := by rw [List.getElem?_take, if_pos hti]
          rw [← h1, HDN.out.1]
          exact List.getElem?_eq_getElem ht
        have hs2 := stc_two (L := j) (by omega) hct
        have h1 := hr.cell (i := t * 2) (by omega)
        have h2 := hr.cell (i := t * 2 + 1) (by omega)
        rw [if_neg (by omega), hs2.1] at h1
        rw [if_neg (by omega), hs2.2] at h2
        exact ⟨h1, h2⟩
end
end Vol
end Go.Proofs.YtcojgpjappjobaaGreatDoor
/- The medium's change: those words that aren't so already are written. -/
namespace Go.Proofs.YtcojgpjappjobaaGreatDoor
open Go.RowKit Go.MapKept
namespace Vol
/-- is a word so already? -/
def alr (W : List Nat) (p : Nat × Nat) : Bool := decide (W[p.1]?.getD 0 = p.2)
/-- the stores of those words from one on that aren't so already -/
def dif (W : List Nat) (f : Nat) (l : List Nat) : List (Nat × Nat) := kep (alr W) (sto f l)
theorem dif_sub {W : List Nat} {f : Nat} {l : List Nat} : ∀ p ∈ dif W f l, p ∈ sto f l := fun _ h => (List.mem_filter.1 h).1
theorem dif_le (W : List Nat) (f : Nat) (l : List Nat) : (dif W f l).length ≤ l.length := by
  have := List.length_filter_le (fun p => !alr W p) (sto f l)
  rw [sto_len] at this
  exact this
theorem puts_kep (W : List Nat) (f : Nat) (l : List Nat) (h : f + l.length ≤ W.length) : ∀ k, k ≤ l.length → puts W (kep (alr W) ((sto f l).take k)) = puts W ((sto f l).take k)
  | 0, _ => rfl
  | k + 1, hk => by
    have hk2 : k < (sto f l).length := by rw [sto_len]; omega
    have ih := puts_kep W f l h k (by omega)
    rw [kep_snoc _ _ (List.getElem?_eq_getElem hk2), puts_step W _ k hk2]
    cases hd : alr W (sto f l)[k] with
    | false =>
      rw [if_neg (by simp), puts_snoc, ih]
    | true =>
      rw [if_pos rfl, List.append_nil, ih]
      have hd := of_decide_eq_true hd
      rw [sto_get] at hd ⊢
      simp only at hd ⊢
      rw [← hd]
      have hg := puts_get W f l h k (by omega) (f + k)
      rw [if_neg (by omega)] at hg
      refine List.ext_getElem? (fun j => ?_)
      by_cases e : j = f + k
      · subst e
        have hj : f + k < (puts W ((sto f l).take k)).length := by rw [puts_len]; omega
        rw [List.getElem?_set_self hj, ← hg, List.getElem?_eq_getElem hj]
        rfl
      · rw [List.getElem?_set_ne (by omega)]
theorem puts_dif (W : List Nat) (f : Nat) (l : List Nat) (h : f + l.length ≤ W.length) : puts W (dif W f l) = puts W (sto f l) := by
  have := puts_kep W f l h l.length (Nat.le_refl _)
  rwa [List.take_of_length_le (by rw [sto_len]; exact Nat.le_refl _)] at this
theorem dif_one (W : List Nat) (p x : Nat) : dif W p [x] = if W[p]?.getD 0 = x then [] else [(p, x)] := by
  unfold dif
  rw [sto_one]
  unfold kep alr
  by_cases h : W[p]?.getD 0 = x
  · simp [h]
  · simp [h]
/-- noughts -/
def nts0 (n : Nat) : List Nat := List.replicate n 0
theorem nts0_len (n : Nat) : (nts0 n).length = n := List.length_replicate
theorem nts0_u64 (n : Nat) : ∀ x ∈ nts0 n, x < 18446744073709551616 := by
  intro x hx
  rw [List.eq_of_mem_replicate hx]
  decide
theorem dif_zero (W : List Nat) (f n : Nat) : (dif W f (nts0 n)).length = ((rdw W f n).filter fun x => x != 0).length := by
  unfold dif kep sto rdw
  rw [nts0_len, List.filter_map, List.filter_map, List.length_map, List.length_map]
  congr 1
  refine List.filter_congr (fun k hk => ?_)
  have h0 : (nts0 n)[k]?.getD 0 = 0 := by
    unfold nts0
    rw [List.getElem?_replicate]
    split <;> rfl
  show (!decide (W[f + k]?.getD 0 = (nts0 n)[k]?.getD 0)) = (W[f + k]?.getD 0 != 0)
  rw [h0]
  by_cases e : W[f + k]?.getD 0 = 0
  · simp [e]
  · simp [e]
theorem dif_done (W : List Nat) (f n : Nat) (h : f + n ≤ W.length) : (dif (puts W (sto f (nts0 n))) f (nts0 n)).length = 0 := by
  have hr := rdw_puts W f (nts0 n) (by rw [nts0_len]; exact h)
  rw [nts0_len] at hr
  rw [dif_zero, hr]
  unfold nts0
  rw [List.length_eq_zero_iff, List.filter_eq_nil_iff]
  intro x hx
  rw [List.eq_of_mem_replicate hx]
  decide

section
variable {Q : Nat → Prop} {w : World} {a : Nat} {W : List Nat} {st sn : Nat}
set_option maxHeartbeats 4000000 in
set_option maxRecDepth 100000 in
theorem change_any (h : Up Q w a W st sn) (f : Nat) (A : Option Addr) (c : Nat) (l : List Nat) (hl : Pack.Wds w A l) (hin : f + l.length ≤ W.length) (hs : st + 2 * l.length < 100000000000) :
    Calls Tryz.prog 97 #[.agg #[.pointer (some ⟨a, 0, none⟩)], .int .i64 (f : Int), .slice A l.length c] w fun r w' =>
      r = .returned (.tuple #[.int .i64 ((dif W f l).length : Int), .int .i64 0]) ∧ Up Q w' a (puts W (dif W f l)) (st + (dif W f l).length + (lns (dif W f l)).length) (sn + (dif W f l).length) ∧ Kq Q w w' := by
  have hsz := h.size
  have H := Lib.hid h
  have HL := Lib.hid hl
  have HIN := Lib.hid hin
  have HS := Lib.hid hs
  have HX := Lib.hid (bx_new w a 121)
  have HB0 := Lib.hid ((Below.refl w.heap.size w).alloc (Nat.le_refl _) (.cells #[.pointer (some ⟨a, 0, none⟩)] 121))
  clear h hl hin hs
  go_enter Tryz.func97, Tryz.ntmps97
  go_wp2_with fail
  have HW1 := Lib.hid (show Pack.Wds (w.alloc (.cells #[.pointer (some ⟨a, 0, none⟩)] 121)) A l from HL.out.keep HB0.out)
  have HF := Lib.hid (show ∀ w', Below (w.alloc (.cells #[.pointer (some ⟨a, 0, none⟩)] 121)).heap.size (w.alloc (.cells #[.pointer (some ⟨a, 0, none⟩)] 121)) w' → ∀ p x : Nat, Calls Tryz.prog 136 #[.agg #[.int .i64 (p : Int), .int .u64 (x : Int)], .pointer (some ⟨w.heap.size, 0, none⟩)] w' fun r w'' => r = .returned (.bool (alr W (p, x))) ∧ Below w'.heap.size w' w'' from
    fun w' hb p x => gone_any (H.out.keep (HB0.out.trans (hb.mono HB0.out.size))) w.heap.size (HX.out.keep hb) p x)
  generalize w.alloc (.cells #[.pointer (some ⟨a, 0, none⟩)] 121) = w1 at *
  refine (storesOf_any f A c l HW1.out (by have := HIN.out; omega) (by have := HIN.out; omega)).mono ?_
  rintro r w2 ⟨rfl, _, hrow, hb⟩
  have HD := Lib.hid (show Calls Tryz.prog 135 #[.slice (some ⟨w1.heap.size, 0, none⟩) l.length l.length, .func (.func 136) #[] #[.pointer (some ⟨w.heap.size, 0, none⟩)]] w2 fun r w' =>
      r = .returned (.slice (some ⟨w1.heap.size, 0, none⟩) (dif W f l).length l.length) ∧ Sts w' w1.heap.size (dif W f l) ∧ Below w1.heap.size w1 w' from
    delete_any w1 w.heap.size w1.heap.size l.length (sto f l) (alr W) hrow (sto_len f l) (Nat.le_refl _) hb (by have := HIN.out; omega) HF.out)
  have HLD := Lib.hid (dif_le W f l)
  have HDM := Lib.hid (show ∀ p ∈ dif W f l, p.1 < W.length ∧ p.2 < 18446744073709551616 from fun p hp => ⟨sto_lt HIN.out p (dif_sub p hp), sto_u64 HL.out.u64 p (dif_sub p hp)⟩)
  clear hrow hb HF HW1
  obtain ⟨d, hd⟩ : ∃ d, d = dif W f l := ⟨_, rfl⟩
  rw [← hd] at HD HLD HDM
  have HDD := Lib.hid hd
  clear hd
  go_wp2_with fail
  refine HD.out.mono ?_
  rintro r w3 ⟨rfl, hS, hb⟩
  have HX3 := Lib.hid (HX.out.keep hb)
  have HB3 := Lib.hid (HB0.out.trans (hb.mono HB0.out.size))
  have HG := Lib.hid (show w.heap.size ≤ w1.heap.size from HB0.out.size)
  have HWR := Lib.hid (write_any (H.out.grow HB3.out) w1.heap.size l.length d hS (.inr ⟨HB0.out.size, hS.lt⟩) HDM.out (by have := HS.out; have := HLD.out; omega) (by have := HIN.out; have := HLD.out; omega))
  have HQX := Lib.hid (show w.heap.size ≤ w.heap.size ∧ w.heap.size < w3.heap.size from ⟨Nat.le_refl _, HX3.out.lt⟩)
  clear hS hb HD HX HB0
  have hc0 := HX3.out.c0
  have hl0 := HX3.out.lt
  go_wp2_with fail
  refine HWR.out.mono ?_
  rintro r w4 ⟨rfl, hu, hk⟩
  have HU := Lib.hid (hu.sub (Q' := Q) (fun k h => .inl h))
  have HK := Lib.hid ((kq_below (Q := Q) HB3.out).trans (hk.sub (fun k h => .inl h)))
  clear hu hk HWR
  go_wp2
  go_ret2
  obtain rfl := HDD.out
  exact ⟨rfl, HU.out, HK.out⟩
end
end Vol
end Go.Proofs.YtcojgpjappjobaaGreatDoor
/- BitmapCopies, walked. -/
namespace Go.Proofs.YtcojgpjappjobaaGreatDoor
open Go.RowKit Go.MapKept
namespace Bm
open Pack (Wds Nts)

section
variable {w : World} {p q K C n : Nat} {f : Nat → Bool}
/-- two maps of the same blocks are the same -/
theorem same_yes {p' q' C' : Nat} (h : Mp w p q K C n f) (h' : Mp w p' q' K C' n f) :
    Calls Tryz.prog 43 #[.pointer (some ⟨p, 0, none⟩), .pointer (some ⟨p', 0, none⟩)] w fun e w' => e = .returned (.bool true) ∧ ∃ k, w' = w.drewN k := by
  have := same_any h h'
  rwa [decide_eq_true rfl] at this
theorem same_no {p' q' C' : Nat} {g : Nat → Bool} (h : Mp w p q K C n f) (h' : Mp w p' q' K C' n g) (hne : f ≠ g) :
    Calls Tryz.prog 43 #[.pointer (some ⟨p, 0, none⟩), .pointer (some ⟨p', 0, none⟩)] w fun e w' => e = .returned (.bool false) ∧ ∃ k, w' = w.drewN k := by
  have := same_any h h'
  rwa [decide_eq_false (fun e => hne ((wds_eq h.far h'.far h.kk.2).1 e))] at this
theorem upd_back {b : Nat} {v : Bool} (h : f b = v) (u : Bool) : upd (upd f b u) b v = f := by
  funext x
  unfold upd
  by_cases e : x = b
  · subst e; rw [if_pos rfl, h]
  · rw [if_neg e, if_neg e]

/-- two maps, both of the call's own, with all below B as it was -/
structure Two (w0 : World) (B p q p' q' K C C' n : Nat) (f g : Nat → Bool) (w : World) : Prop where
  one : Mp w p q K C n f
  two : Mp w p' q' K C' n g
  below : Below B w0 w
  hB : B ≤ w.heap.size
  bq : B ≤ q'
  ne : p ≠ q' ∧ q ≠ q'
theorem Two.keep {w0 w w' : World} {B p q p' q' K C C' n : Nat} {f g : Nat → Bool} (h : Two w0 B p q p' q' K C C' n f g w) (hb : Below w.heap.size w w') : Two w0 B p q p' q' K C C' n f g w' :=
  ⟨h.one.keep hb, h.two.keep hb, h.below.trans (hb.mono h.hB), Nat.le_trans h.hB hb.size, h.bq, h.ne⟩
theorem Two.drewN {w0 w : World} {B p q p' q' K C C' n : Nat} {f g : Nat → Bool} (h : Two w0 B p q p' q' K C C' n f g w) (k : Nat) : Two w0 B p q p' q' K C C' n f g (w.drewN k) :=
  h.keep (below_drewN (Below.refl _ _) k)
theorem Two.chg {w0 w w' : World} {B p q p' q' K C C' n : Nat} {f g g' : Nat → Bool} (h : Two w0 B p q p' q' K C C' n f g w) (hc : Chg q' w w') (hM : Mp w' p' q' K C' n g') : Two w0 B p q p' q' K C C' n f g' w' :=
  ⟨h.one.chg hc h.ne.1 h.ne.2, hM, h.below.trans (hc.below h.hB h.bq), Nat.le_trans h.hB hc.size, h.bq, h.ne⟩

end
end Bm
end Go.Proofs.YtcojgpjappjobaaGreatDoor
/- A volume's map and record, written. -/
namespace Go.Proofs.YtcojgpjappjobaaGreatDoor
open Go.RowKit Go.MapKept
namespace Vol
theorem bitAt_wds {f : Nat → Bool} {K i : Nat} (h : i < 64 * K) : Bm.bitAt (Bm.wds f K) i = f i := by
  unfold Bm.bitAt
  have h1 : i / 64 < (Bm.wds f K).length := by rw [Bm.wds_len]; omega
  rw [List.getD_eq_getElem?_getD, List.getElem?_eq_getElem h1, Option.getD_some, Bm.wds_get, Bm.wd_bit, decide_eq_true (Nat.mod_lt _ (by omega)), Bool.true_and, show 64 * (i / 64) + i % 64 = i by omega]
theorem good_wds {f : Nat → Bool} {n K : Nat} (h : ∀ b, n ≤ b → f b = false) : Bm.Good n (Bm.wds f K) := fun i h1 h2 => by
  rw [Bm.wds_len] at h2
  rw [bitAt_wds h2, h i h1]
theorem fo_wds {f : Nat → Bool} {n K : Nat} (h : ∀ b, n ≤ b → f b = false) (hK : n ≤ 64 * K) : Bm.fo n (Bm.wds f K) = f := by
  funext b
  unfold Bm.fo
  by_cases hb : b < n
  · rw [decide_eq_true hb, Bool.true_and, bitAt_wds (by omega)]
  · rw [decide_eq_false hb, h b (by omega)]
    rfl
section
variable {Q Q' : Nat → Prop} {w w' : World} {vb a n m s : Nat} {W : List Nat} {st sn : Nat}
/-- but for a block of Q all is as it was -/
theorem Up.chg {q : Nat} (h : Up Q w a W st sn) (hc : Bm.Chg q w w') (hq : Q q) : Up Q w' a W st sn := by
  obtain ⟨A, ⟨D, hrep, e, ok, hf, hQ⟩, r⟩ := h
  exact ⟨A, ⟨D, hrep.keep (fun k hk => hc.block k (hrep.foot_lt hk) (fun e => hf k hk (by rw [e]; exact hq))), e, ok, hf, fun k hk => Nat.lt_of_lt_of_le (hQ k hk) hc.size⟩, r⟩
theorem Vo.chg {q : Nat} (h : Vo Q w vb a n m s W st sn) (hc : Bm.Chg q w w') (hq : Q q) (hne : vb ≠ q) : Vo Q w' vb a n m s W st sn :=
  ⟨(hc.block vb h.lt hne).trans h.vol, h.q, h.up.chg hc hq, h.may, h.len⟩
theorem Hb.chg {q b : Nat} {cs : Array Value} {t : TypeId} (h : Hb w b cs t) (hc : Bm.Chg q w w') (hne : b ≠ q) : Hb w' b cs t := (hc.block b h.lt hne).trans h
theorem mp_kq {p q K C n : Nat} {f : Nat → Bool} (h : Bm.Mp w p q K C n f) (hk : Kq Q w w') (hp : Q p) (hq : Q q) : Bm.Mp w' p q K C n f :=
  ⟨Nat.lt_of_lt_of_le h.lt hk.size, (World.cell?_of_block (w := w) (a := ⟨p, 0, none⟩) (hk.at hp h.lt)).trans h.c0, (World.cell?_of_block (w := w) (a := ⟨p, 1, none⟩) (hk.at hp h.lt)).trans h.c1, h.row.of_block (hk.at hq h.row.lt), h.ne, h.far, h.max, h.hK, h.cap⟩

set_option maxHeartbeats 2000000 in
set_option maxRecDepth 100000 in
theorem setBitmap_nil (h : Vo Q w vb a n m s W st sn) : Calls Tryz.prog 40 #[.pointer (some ⟨vb, 0, none⟩), .pointer none] w fun r w' => r = .returned (.tuple #[.int .i64 0, .int .i64 1]) ∧ Below w.heap.size w w' := by
  obtain ⟨c0, c1, c2, c3⟩ := h.cells
  have hlt := h.lt
  clear h
  go_enter Tryz.func40, Tryz.ntmps40
  go_wp2
  go_quiet (fail)
  go_wp2
  go_ret2
  exact ⟨rfl, Bm.below_drewN (Below.refl _ _) _⟩

set_option maxHeartbeats 2000000 in
set_option maxRecDepth 100000 in
theorem setBitmap_len (h : Vo Q w vb a n m s W st sn) {p q K C k : Nat} {f : Nat → Bool} (hM : Bm.Mp w p q K C k f) (hne : k ≠ n) : Calls Tryz.prog 40 #[.pointer (some ⟨vb, 0, none⟩), .pointer (some ⟨p, 0, none⟩)] w fun r w' => r = .returned (.tuple #[.int .i64 0, .int .i64 1]) ∧ Below w.heap.size w w' := by
  obtain ⟨c0, c1, c2, c3⟩ := h.cells
  have hlt := h.lt
  have HC := Lib.hid (fun j => Bm.len_any (hM.drewN j))
  have hd : ((k : Int) != (n : Int)) = true := by simp; omega
  clear h
  go_enter Tryz.func40, Tryz.ntmps40
  go_wp2_with fail
  go_quiet ((go_at_call 80; exact Calls.quiet_of_same ((HC.out _).mono (fun _ _ h => ⟨h.1, h.2.symm⟩))))
  go_wp2
  go_ret2
  exact ⟨rfl, Bm.below_drewN (Below.refl _ _) _⟩

set_option maxHeartbeats 4000000 in
set_option maxRecDepth 100000 in
theorem setBitmap_yes (h : Vo Q w vb a n m s W st sn) {bm : Nat} (hbm : Geo.bmAt n m = (bm : Int)) {p q K C : Nat} {f : Nat → Bool} (hM : Bm.Mp w p q K C n f) (hs : st + 2 * K < 100000000000) :
    Calls Tryz.prog 40 #[.pointer (some ⟨vb, 0, none⟩), .pointer (some ⟨p, 0, none⟩)] w fun r w' =>
      r = .returned (.tuple #[.int .i64 ((dif W bm (Bm.wds f K)).length : Int), .int .i64 0]) ∧ Vo Q w' vb a n m s (puts W (dif W bm (Bm.wds f K))) (st + (dif W bm (Bm.wds f K)).length + (lns (dif W bm (Bm.wds f K))).length) (sn + (dif W bm (Bm.wds f K)).length) ∧ Kq Q w w' := by
  obtain ⟨h1, h2, h3⟩ := h.num
  have h4 := Geo.bm_bounds h1 h2
  have h5 := Geo.bk_bounds h1 h2
  have h6 := Geo.fin_bounds h1 h2 h3
  have h7 := h.len
  have hkk := hM.hK
  have hsz := h.up.size
  have hin : bm + K ≤ W.length := by
    unfold Geo.fin at h7
    omega
  obtain ⟨c0, c1, c2, c3⟩ := h.cells
  have hlt := h.lt
  have hp : ∀ w : World, Calls Tryz.prog 73 #[.agg #[.int .i64 n, .int .i64 m, .int .i64 s]] w fun r w' => r = .returned (.tuple #[.int .i64 (bm : Int), .int .i64 (K : Int)]) ∧ Below w.heap.size w w' := fun w => by
    have hp := Geo.bitmap_any w (n : Int) (m : Int) (s : Int)
    rw [Geo.iff_yes h.may, Geo.iff_yes h.may, hbm, show ((n : Int) + 63) / 64 = (K : Int) by omega] at hp
    exact hp
  have HP := Lib.hid hp
  have HC := Lib.hid (fun j => Bm.len_any (hM.drewN j))
  have HM := Lib.hid hM
  have H := Lib.hid h
  have HIN := Lib.hid (show bm + K ≤ W.length ∧ K ≤ 1024 ∧ st + 2 * K < 100000000000 from ⟨hin, by omega, hs⟩)
  have hd : ((n : Int) != (n : Int)) = false := by simp
  clear h hp hM h1 h2 h3 h4 h5 h6 h7 hkk hsz hin hs
  go_enter Tryz.func40, Tryz.ntmps40
  go_wp2_with fail
  go_quiet ((go_at_call 80; exact Calls.quiet_of_same ((HC.out _).mono (fun _ _ h => ⟨h.1, h.2.symm⟩))))
  go_wp2_with fail
  refine (HP.out _).mono ?_
  rintro r w1 ⟨rfl, hb⟩
  have HB1 := Lib.hid (show Below w.heap.size w w1 from (Bm.below_drewN (Below.refl _ w) nq).trans hb)
  clear hb HP HC c0 c1 c2 c3 hd hlt
  obtain ⟨c0, c1, c2, c3⟩ := (H.out.keep HB1.out).cells
  have hlt := (H.out.keep HB1.out).lt
  have HW := Lib.hid (fun W' (hb : Below w.heap.size w W') => Bm.words_any (HM.out.keep hb))
  obtain ⟨l, hl⟩ : ∃ l, l = Bm.wds f K := ⟨_, rfl⟩
  have HCH := Lib.hid (fun (w' : World) (gr gc : Nat) (hb : Below w.heap.size w w') (hr : Bm.Row w' gr 85 K (fun k => .int .u64 (Bm.wd f k : Int))) =>
    show Calls Tryz.prog 97 #[.agg #[.pointer (some ⟨a, 0, none⟩)], .int .i64 (bm : Int), .slice (some ⟨gr, 0, none⟩) K gc] w' fun r w'' =>
      r = .returned (.tuple #[.int .i64 ((dif W bm l).length : Int), .int .i64 0]) ∧ Vo Q w'' vb a n m s (puts W (dif W bm l)) (st + (dif W bm l).length + (lns (dif W bm l)).length) (sn + (dif W bm l).length) ∧ Kq Q w w'' from by
    have hll : l.length = K := by rw [hl, Bm.wds_len]
    have hc := change_any (H.out.up.keep hb) bm (some ⟨gr, 0, none⟩) gc l (by rw [hl]; exact hr.wds (by have := HIN.out; omega)) (by rw [hll]; exact HIN.out.1) (by rw [hll]; exact HIN.out.2.2)
    rw [hll] at hc
    refine hc.mono ?_
    rintro r w'' ⟨rfl, hu, hk⟩
    have hk2 := (kq_below (Q := Q) hb).trans hk
    exact ⟨rfl, H.out.next hu hk2 (puts_len _ _), hk2⟩)
  have HLE := Lib.hid hl
  clear hl
  go_wp2_with fail
  go_region_held3 (fun W' => W'.cell? ⟨vb, 0, none⟩ = some (.pointer (some ⟨a, 0, none⟩))) (go_keep)
    (first
    | (go_at_call 84
       with_reducible refine (HW.out w1.drew (HB1.out.trans ((bel_d w1).mono HB1.out.size))).mono ?_
       rintro r w2 ⟨gr, gc, rfl, _, _, hrow, hb⟩
       have HROW := Lib.hid hrow
       have HB2 := Lib.hid ((HB1.out.trans ((bel_d w1).mono HB1.out.size)).trans (hb.mono HB1.out.size))
       have hd0 := (H.out.keep HB2.out).cells.1
       have hl3 := (H.out.keep HB2.out).lt
       clear hb hrow)
    | (go_at_call 97
       with_reducible refine (HCH.out _ _ _ HB2.out HROW.out).mono ?_
       rintro r w3 ⟨rfl, hv, hk⟩
       have HV := Lib.hid hv
       have HK := Lib.hid hk
       have he0 := hv.cells.1
       have hl4 := hv.lt
       clear hv hk))
  go_wp2
  go_ret2
  obtain rfl := HLE.out
  exact ⟨rfl, HV.out, HK.out⟩
end
end Vol
end Go.Proofs.YtcojgpjappjobaaGreatDoor
/- A volume's record, written and cleared. -/
namespace Go.Proofs.YtcojgpjappjobaaGreatDoor
open Go.RowKit Go.MapKept
namespace Vol
section
variable {Q Q' : Nat → Prop} {w w' : World} {vb a n m s : Nat} {W : List Nat} {st sn : Nat}
theorem record_place (h : Vo Q w vb a n m s W st sn) (w : World) : Calls Tryz.prog 77 #[.agg #[.int .i64 n, .int .i64 m, .int .i64 s]] w fun r w' => r = .returned (.int .i64 8) ∧ Below w.heap.size w w' := by
  have hp := Geo.record_any w (n : Int) (m : Int) (s : Int)
  rw [Geo.plc_yes h.may (by omega) (by omega)] at hp
  exact hp
/-- the record's line is within -/
theorem record_in (h : Vo Q w vb a n m s W st sn) : 8 + 8 ≤ W.length := by
  obtain ⟨h1, h2, h3⟩ := h.num
  have h4 := Geo.bm_bounds h1 h2
  have h5 := Geo.bk_bounds h1 h2
  have h6 := Geo.fin_bounds h1 h2 h3
  have h7 := h.len
  unfold Geo.fin at h7
  omega

set_option maxHeartbeats 2000000 in
set_option maxRecDepth 100000 in
theorem setRecord_no (h : Vo Q w vb a n m s W st sn) (x y z t : Int) (hm : Rec.may x y z t = false) :
    Calls Tryz.prog 46 #[.pointer (some ⟨vb, 0, none⟩), .agg #[.int .i64 x, .int .i64 y, .int .i64 z, .int .i64 t]] w fun r w' => r = .returned (.int .i64 1) ∧ Below w.heap.size w w' := by
  obtain ⟨c0, c1, c2, c3⟩ := h.cells
  have hlt := h.lt
  have HX := Lib.hid (hb_new w #[.int .i64 x, .int .i64 y, .int .i64 z, .int .i64 t] 70)
  have HB0 := Lib.hid ((Below.refl w.heap.size w).alloc (Nat.le_refl _) (.cells #[.int .i64 x, .int .i64 y, .int .i64 z, .int .i64 t] 70))
  have HE := Lib.hid (fun w => Rec.encode_no w x y z t hm)
  clear h hm
  go_enter Tryz.func46, Tryz.ntmps46
  go_wp2_with fail
  refine (HE.out _).mono ?_
  rintro r w2 ⟨rfl, hb⟩
  have HB2 := Lib.hid (HB0.out.trans (hb.mono HB0.out.size))
  clear hb HE
  go_wp2
  go_ret
  exact ⟨rfl, HB2.out⟩

set_option maxHeartbeats 4000000 in
set_option maxRecDepth 100000 in
theorem setRecord_yes (h : Vo Q w vb a n m s W st sn) (x y z t : Nat) (hm : Rec.may x y z t = true) (hs : st + 16 < 100000000000) :
    Calls Tryz.prog 46 #[.pointer (some ⟨vb, 0, none⟩), .agg #[.int .i64 (x : Int), .int .i64 (y : Int), .int .i64 (z : Int), .int .i64 (t : Int)]] w fun r w' =>
      r = .returned (.int .i64 0) ∧ Vo Q w' vb a n m s (puts W (sto 8 (Rec.ln x y z t))) (st + 8 + lc 8 8) (sn + 8) ∧ Kq Q w w' := by
  obtain ⟨c0, c1, c2, c3⟩ := h.cells
  have hlt := h.lt
  have hsz := h.up.size
  have HB0 := Lib.hid ((Below.refl w.heap.size w).alloc (Nat.le_refl _) (.cells #[.int .i64 (x : Int), .int .i64 (y : Int), .int .i64 (z : Int), .int .i64 (t : Int)] 70))
  have HP := Lib.hid (record_place h)
  have HIN := Lib.hid (show 8 + 8 ≤ W.length ∧ W.length ≤ 4194304 from ⟨record_in h, hsz⟩)
  have HE := Lib.hid (fun w => Rec.encode_yes w x y z t hm)
  have HLL := Lib.hid (show (Rec.ln x y z t).length = 8 ∧ ∀ o ∈ Rec.ln x y z t, o < 18446744073709551616 from ⟨Rec.ln_len x y z t, Rec.ln_u64 hm⟩)
  generalize Rec.ln x y z t = L at *
  have HST := Lib.hid hs
  have H := Lib.hid h
  clear h hm hs hsz
  go_enter Tryz.func46, Tryz.ntmps46
  go_wp2_with fail
  refine (HE.out _).mono ?_
  rintro r w2 ⟨gr, _, rfl, hrow, hb⟩
  have HROW := Lib.hid (Lin.row_pack hrow HLL.out.1 HLL.out.2)
  have HB2 := Lib.hid (HB0.out.trans (hb.mono HB0.out.size))
  clear hb HB0 HE c0 c1 c2 c3 hrow
  obtain ⟨c0, c1, c2, c3⟩ := (H.out.keep HB2.out).cells
  have hl2 := (H.out.keep HB2.out).lt
  have HSO := Lib.hid (fun w' (hb : Below w2.heap.size w2 w') => show Calls Tryz.prog 89 #[.int .i64 8, .slice (some ⟨gr, 0, none⟩) 8 8] w' fun r w'' => ∃ gs, r = .returned (.slice (some ⟨gs, 0, none⟩) 8 8) ∧ w'.heap.size ≤ gs ∧ Sts w'' gs (sto 8 L) ∧ Below w'.heap.size w' w'' from stores_at (f := 8) (c := 8) HROW.out HLL.out.1 (by omega) (by omega) hb)
  go_wp2_with fail
  go_region_held3 (fun W' => W'.cell? ⟨vb, 0, none⟩ = some (.pointer (some ⟨a, 0, none⟩)) ∧ W'.cell? ⟨vb, 1, none⟩ = some (.int .i64 (n : Int)) ∧ W'.cell? ⟨vb, 2, none⟩ = some (.int .i64 (m : Int)) ∧ W'.cell? ⟨vb, 3, none⟩ = some (.int .i64 (s : Int))) (go_keep)
    (first
    | (go_at_call 77
       with_reducible refine (HP.out w2.drew).mono ?_
       rintro r w3 ⟨rfl, hb⟩
       have HBX := Lib.hid (show Below w2.heap.size w2 w3 from (bel_d w2).trans (hb.mono (bel_d w2).size))
       have HB3 := Lib.hid (HB2.out.trans (HBX.out.mono HB2.out.size))
       obtain ⟨d0, d1, d2, d3⟩ := (H.out.keep HB3.out).cells
       have hl3 := (H.out.keep HB3.out).lt
       clear hb)
    | (go_at_call 89
       with_reducible refine (HSO.out w3 HBX.out).mono ?_
       rintro r w4 ⟨gs, rfl, hg, hS, hb⟩
       have HB4 := Lib.hid (HB3.out.trans (hb.mono HB3.out.size))
       obtain ⟨e0, e1, e2, e3⟩ := (H.out.keep HB4.out).cells
       have hl4 := (H.out.keep HB4.out).lt
       have HWR := Lib.hid (write_sto H.out HB3.out hg hS hb HLL.out.1 (by have := HIN.out; omega) HLL.out.2 (by have := HST.out; omega))
       clear hg hS hb)
    | (go_at_call 88
       with_reducible refine HWR.out.mono ?_
       rintro r w5 ⟨rfl, hv5, hk5⟩
       obtain ⟨f0, f1, f2, f3⟩ := hv5.cells
       have HV5 := Lib.hid hv5
       have HK5 := Lib.hid hk5
       have hl5 := hv5.lt
       clear hv5 hk5))
  go_wp2
  go_ret
  exact ⟨rfl, HV5.out, HK5.out⟩

theorem made_zero (w : World) : Pack.Wds (w.alloc (.cells (madeCells #[.int .u64 0] 8) 85)) (some ⟨w.heap.size, 0, none⟩) (nts0 8) := by
  refine row_words (n := 8) ((World.rowIs_made w (.int .u64 0) 8 85).congr (fun i _ => ?_)) (nts0_len 8) (by omega) (nts0_u64 8)
  have h0 : (nts0 8)[i]?.getD 0 = 0 := by
    unfold nts0
    rw [List.getElem?_replicate]
    split <;> rfl
  rw [h0]
  rfl

set_option maxHeartbeats 4000000 in
set_option maxRecDepth 100000 in
theorem clearRecord_any (h : Vo Q w vb a n m s W st sn) (hs : st + 16 < 100000000000) :
    Calls Tryz.prog 50 #[.pointer (some ⟨vb, 0, none⟩)] w fun r w' =>
      r = .returned (.tuple #[.int .i64 ((dif W 8 (nts0 8)).length : Int), .int .i64 0]) ∧ Vo Q w' vb a n m s (puts W (dif W 8 (nts0 8))) (st + (dif W 8 (nts0 8)).length + (lns (dif W 8 (nts0 8))).length) (sn + (dif W 8 (nts0 8)).length) ∧ Kq Q w w' := by
  obtain ⟨c0, c1, c2, c3⟩ := h.cells
  have hlt := h.lt
  have HP := Lib.hid (record_place h)
  have H := Lib.hid h
  have HIN := Lib.hid (record_in h)
  obtain ⟨d, hd⟩ : ∃ d, d = dif W 8 (nts0 8) := ⟨_, rfl⟩
  have HCH := Lib.hid (fun (w' : World) (g : Nat) (hb : Below w.heap.size w w') (hr : Pack.Wds w' (some ⟨g, 0, none⟩) (nts0 8)) =>
    show Calls Tryz.prog 97 #[.agg #[.pointer (some ⟨a, 0, none⟩)], .int .i64 8, .slice (some ⟨g, 0, none⟩) 8 8] w' fun r w'' =>
      r = .returned (.tuple #[.int .i64 (d.length : Int), .int .i64 0]) ∧ Vo Q w'' vb a n m s (puts W d) (st + d.length + (lns d).length) (sn + d.length) ∧ Kq Q w w'' from by
    have hc := change_any (H.out.up.keep hb) 8 (some ⟨g, 0, none⟩) 8 (nts0 8) hr (by rw [nts0_len]; exact HIN.out) (by rw [nts0_len]; omega)
    rw [nts0_len, ← hd] at hc
    refine hc.mono ?_
    rintro r w'' ⟨rfl, hu, hk⟩
    have hk2 := (kq_below (Q := Q) hb).trans hk
    exact ⟨rfl, H.out.next hu hk2 (puts_len _ _), hk2⟩)
  have HDD := Lib.hid hd
  have hmk := fun W => Pm.run_new 8 8 rfl (by omega) W
  clear h hd hs
  go_enter Tryz.func50, Tryz.ntmps50
  go_wp2_with fail
  go_region_with (first
    | (go_at_call 77
       refine (HP.out _).mono ?_
       rintro r w2 ⟨rfl, hb⟩
       have hbw : Below w.heap.size w w2 := by first | exact (bel_d w).trans hb | exact ((bel_d w).alloc (Nat.le_refl _) _).trans (hb.mono (by simp))
       obtain ⟨d0, d1, d2, d3⟩ := (H.out.keep hbw).cells
       have hl3 := (H.out.keep hbw).lt
       first | (have HZ := Lib.hid (show Pack.Wds w2 (some ⟨w.heap.size, 0, none⟩) (nts0 8) from (made_zero w.drew).keep hb)) | skip
       have HB2 := Lib.hid hbw
       clear hb hbw)
    | (go_at_call 97
       first
       | (with_reducible refine (HCH.out _ _ HB2.out HZ.out).mono ?_)
       | (with_reducible refine (HCH.out _ _ (HB2.out.alloc HB2.out.size _) (made_zero w2)).mono ?_)
       rintro r w3 ⟨rfl, hv, hk⟩
       have HV := Lib.hid hv
       have HK := Lib.hid hk
       obtain ⟨f0, f1, f2, f3⟩ := hv.cells
       have hl4 := hv.lt
       clear hv hk))
  all_goals
    go_wp2
    go_ret2
    obtain rfl := HDD.out
    exact ⟨rfl, HV.out, HK.out⟩
end
end Vol
end Go.Proofs.YtcojgpjappjobaaGreatDoor
/- The document's Turn, with where its answer lies. -/
namespace Go.Proofs.YtcojgpjappjobaaGreatDoor
open Go.RowKit Go.MapKept
namespace Bm
section
variable {w : World} {q n : Nat} {f : Nat → Bool}
/-- what Turn answers: the row that was there, or one just made -/
def Trw (w : World) (q n : Nat) (is : Bool) (f : Nat → Bool) (b : Int) (A0 : Option Addr) (e : Ending) (w' : World) : Prop :=
  ∃ (A : Option Addr) (c : Nat), e = .returned (.tuple #[.slice A n c, .bool (trd n is f b)]) ∧ Bls w' q A n (trn n is f b) ∧ (A = A0 ∨ ∀ p, A = some p → w.heap.size ≤ p.block) ∧ Below w.heap.size w w'

set_option maxRecDepth 100000 in
set_option maxHeartbeats 1000000 in
theorem turn_at (A : Option Addr) (c : Nat) (h : Bls w q A n f) (hn : n ≤ 65534) (hq : q < w.heap.size) (b : Int) (is : Bool) :
    Calls Tryz.prog 39 #[.slice A n c, .int .i64 b, .bool is] w (Trw w q n is f b A) := by
  by_cases hin : b < 0 ∨ (n : Int) ≤ b
  · have hx : trd n is f b = false := by unfold trd; rw [decide_eq_false (by omega)]; rfl
    have HX := Lib.hid (show Trw w q n is f b A (.returned (.tuple #[.slice A n c, .bool false])) w from ⟨A, c, by rw [hx], by unfold trn; rw [hx]; exact h, .inl rfl, Below.refl _ _⟩)
    clear h hx
    by_cases h0 : b < 0
    · clear hin
      go_enter Tryz.func39, Tryz.ntmps39
      go_wp2
      go_ret2
      exact HX.out
    · have h1 : (n : Int) ≤ b := by omega
      clear hin
      go_enter Tryz.func39, Tryz.ntmps39
      go_wp2
      go_ret2
      exact HX.out
  · obtain ⟨d, rfl⟩ := Int.eq_ofNat_of_zero_le (show 0 ≤ b by omega)
    have hd : d < n := by omega
    clear hin
    obtain ⟨bb, o, rfl, hlt, hbq, hcell⟩ := h.at' d hd
    have hi0 : (0 : Int) ≤ (d : Int) := by omega
    have hi1 : (d : Int) < (n : Int) := by omega
    have hi2 : ¬ (d : Int) < 0 := by omega
    have hi3 : ¬ (n : Int) ≤ (d : Int) := by omega
    by_cases hs : f d = is
    · have hx : trd n is f (d : Int) = false := by unfold trd; rw [Int.toNat_natCast, hs]; simp
      have HX := Lib.hid (show Trw w q n is f (d : Int) (some ⟨bb, o, none⟩) (.returned (.tuple #[.slice (some ⟨bb, o, none⟩) n c, .bool false])) w from ⟨_, c, by rw [hx], by unfold trn; rw [hx]; exact h, .inl rfl, Below.refl _ _⟩)
      rw [hs] at hcell
      clear h hx hs
      go_enter Tryz.func39, Tryz.ntmps39
      go_wp2
      go_ret2
      exact HX.out
    · have hx : trd n is f (d : Int) = true := by
        unfold trd
        rw [Int.toNat_natCast, decide_eq_true (by omega)]
        simpa using hs
      obtain ⟨g, gc, w1, hr, hg, hrow, hbel⟩ := copy_bls c h hn
      have hcg := hrow.cell hd
      have hfg := hrow.frozen d
      have hne : g ≠ q := by omega
      have HX := Lib.hid (show Trw w q n is f (d : Int) (some ⟨bb, o, none⟩) (.returned (.tuple #[.slice (some ⟨g, 0, none⟩) n gc, .bool true])) (w1.setCell ⟨g, d, none⟩ (.bool is)) from ⟨_, gc, by rw [hx], by
        unfold trn
        rw [hx, if_pos rfl, Int.toNat_natCast]
        refine Row.bls ((hrow.set d (.bool is)).congr (fun j _ => ?_)) hne
        unfold upd
        split <;> rfl, .inr (fun p hp => by injection hp with hp; subst hp; exact hg), hbel.setCell hg _⟩)
      have hfd : f d = !is := by cases is <;> simpa using hs
      rw [hfd] at hcell
      have HR := Lib.hid hr
      clear h hx hs hr hrow hbel hfd
      cases is with
      | true =>
        simp only [Bool.not_true] at hcell
        go_enter Tryz.func39, Tryz.ntmps39
        go_wp2_with (at_builtin; refine wpList_append_run rfl (.tmp 26) (.tmp 27) 66 rfl _ _ _ rfl rfl HR.out ?_)
        go_ret2
        exact HX.out
      | false =>
        simp only [Bool.not_false] at hcell
        go_enter Tryz.func39, Tryz.ntmps39
        go_wp2_with (at_builtin; refine wpList_append_run rfl (.tmp 26) (.tmp 27) 66 rfl _ _ _ rfl rfl HR.out ?_)
        go_ret2
        exact HX.out
end
end Bm
end Go.Proofs.YtcojgpjappjobaaGreatDoor
/- VolumeMaps, walked. -/
namespace Go.Proofs.YtcojgpjappjobaaGreatDoor
open Go.RowKit Go.MapKept
namespace Vol
/-- the volume, the document's words, the record, as they lie all the while -/
structure Ms (w0 : World) (Q : Nat → Prop) (vb a g gc b3 br n m s sl bm bk E : Nat) (D : List Nat) (RC : Array Value) (W : List Nat) (st sn : Nat) (w : World) : Prop where
  vo : Vo Q w vb a n m s W st sn
  wds : Pack.Wds w (some ⟨g, 0, none⟩) D
  box : Hb w b3 #[.int .i64 (n : Int), .int .i64 (m : Int), .int .i64 (s : Int), .int .i64 16, .int .i64 (sl : Int), .int .i64 (bm : Int), .int .i64 (bk : Int), .int .i64 (E : Int), .slice (some ⟨g, 0, none⟩) E gc] 30
  rcd : Hb w br RC 70
  below : Below w0.heap.size w0 w
  q3 : Q b3
  qg : Q g
  qr : Q br
  q0 : ∀ k, k < w0.heap.size → Q k
section
variable {w0 w w' : World} {Q : Nat → Prop} {vb a g gc b3 br n m s sl bm bk E : Nat} {D : List Nat} {RC : Array Value} {W : List Nat} {st sn : Nat}
theorem Ms.keep (h : Ms w0 Q vb a g gc b3 br n m s sl bm bk E D RC W st sn w) (hb : Below w.heap.size w w') : Ms w0 Q vb a g gc b3 br n m s sl bm bk E D RC W st sn w' :=
  ⟨h.vo.keep hb, h.wds.keep hb, h.box.keep hb, h.rcd.keep hb, h.below.trans (hb.mono h.below.size), h.q3, h.qg, h.qr, h.q0⟩
theorem Ms.grow (h : Ms w0 Q vb a g gc b3 br n m s sl bm bk E D RC W st sn w) (hb : Below w.heap.size w w') : Ms w0 (fun k => Q k ∨ (w.heap.size ≤ k ∧ k < w'.heap.size)) vb a g gc b3 br n m s sl bm bk E D RC W st sn w' :=
  ⟨h.vo.grow hb, h.wds.keep hb, h.box.keep hb, h.rcd.keep hb, h.below.trans (hb.mono h.below.size), .inl h.q3, .inl h.qg, .inl h.qr, fun k hk => .inl (h.q0 k hk)⟩
theorem Ms.lt (h : Ms w0 Q vb a g gc b3 br n m s sl bm bk E D RC W st sn w) : vb < w.heap.size ∧ g < w.heap.size ∧ b3 < w.heap.size ∧ br < w.heap.size :=
  ⟨h.vo.lt, h.vo.up.lt _ h.qg, h.vo.up.lt _ h.q3, h.vo.up.lt _ h.qr⟩
theorem Ms.next (h : Ms w0 Q vb a g gc b3 br n m s sl bm bk E D RC W st sn w) {W' : List Nat} {st' sn' : Nat} (hv : Vo Q w' vb a n m s W' st' sn') (hk : Kq Q w w') : Ms w0 Q vb a g gc b3 br n m s sl bm bk E D RC W' st' sn' w' :=
  ⟨hv, wds_block h.wds (hk.at h.qg h.lt.2.1), h.box.kq hk h.q3, h.rcd.kq hk h.qr, h.below.trans (hk.below h.below.size h.q0), h.q3, h.qg, h.qr, h.q0⟩
theorem bls_kq {q N : Nat} {A : Option Addr} {f : Nat → Bool} (h : Bm.Bls w q A N f) (hk : Kq Q w w') (hq : 0 < N → ∀ p, A = some p → Q p.block) : Bm.Bls w' q A N f :=
  ⟨fun j hj => by
    obtain ⟨b, o, e, h1, h2, h3⟩ := h.at' j hj
    have hb := hk.at (hq (by omega) _ e) h1
    exact ⟨b, o, e, Nat.lt_of_lt_of_le h1 hk.size, h2, (World.cell?_of_block (w := w) (a := ⟨b, o + j, none⟩) hb).trans h3⟩⟩
/-- the map and the truths beside these -/
structure Mt (w0 : World) (Q : Nat → Prop) (vb a g gc b3 br n m s sl bm bk E : Nat) (D : List Nat) (RC : Array Value) (pm qm K N : Nat) (BA : Option Addr) (f : Nat → Bool) (W : List Nat) (st sn : Nat) (w : World) : Prop where
  ms : Ms w0 Q vb a g gc b3 br n m s sl bm bk E D RC W st sn w
  mp : Bm.Mp w pm qm K K N f
  bls : Bm.Bls w qm BA N f
  qp : Q pm
  qq : Q qm
  qb : 0 < N → ∀ p, BA = some p → Q p.block
variable {pm qm K N : Nat} {BA : Option Addr} {f : Nat → Bool}
theorem Mt.keep (h : Mt w0 Q vb a g gc b3 br n m s sl bm bk E D RC pm qm K N BA f W st sn w) (hb : Below w.heap.size w w') : Mt w0 Q vb a g gc b3 br n m s sl bm bk E D RC pm qm K N BA f W st sn w' :=
  ⟨h.ms.keep hb, h.mp.keep hb, h.bls.chg (Bm.chg_of_below hb qm), h.qp, h.qq, h.qb⟩
theorem Mt.next (h : Mt w0 Q vb a g gc b3 br n m s sl bm bk E D RC pm qm K N BA f W st sn w) {W' : List Nat} {st' sn' : Nat} (hv : Vo Q w' vb a n m s W' st' sn') (hk : Kq Q w w') : Mt w0 Q vb a g gc b3 br n m s sl bm bk E D RC pm qm K N BA f W' st' sn' w' :=
  ⟨h.ms.next hv hk, mp_kq h.mp hk h.qp h.qq, bls_kq h.bls hk h.qb, h.qp, h.qq, h.qb⟩
end
theorem dif_facts (D : List Nat) (bm X : Nat) (h : bm + 1 ≤ D.length) : ∃ wt : Nat, (dif D bm [X]).length = wt ∧ (lns (dif D bm [X])).length = wt ∧ puts D (dif D bm [X]) = puts D (sto bm [X]) ∧ ((D[bm]?.getD 0 = X ∧ wt = 0) ∨ (D[bm]?.getD 0 ≠ X ∧ wt = 1)) := by
  refine ⟨(dif D bm [X]).length, rfl, ?_, puts_dif D bm [X] h, ?_⟩
  · rw [dif_one]
    split <;> rfl
  · rw [dif_one]
    by_cases e : D[bm]?.getD 0 = X
    · exact .inl ⟨e, by rw [if_pos e]; rfl⟩
    · exact .inr ⟨e, by rw [if_neg e]; rfl⟩
theorem vbitmap_is {Q : Nat → Prop} {w : World} {vb a n m s : Nat} {W : List Nat} {st sn bm : Nat} {f : Nat → Bool} (h : Vo Q w vb a n m s W st sn) (hbm : Geo.bmAt n m = (bm : Int)) (hn : 1 ≤ n ∧ n ≤ 20) (hr : rdw W bm 1 = [Bm.wd f 0]) (hfar : ∀ b, n ≤ b → f b = false) :
    Calls Tryz.prog 23 #[.pointer (some ⟨vb, 0, none⟩)] w fun r w' => ∃ p q C : Nat, r = .returned (.tuple #[.pointer (some ⟨p, 0, none⟩), .int .i64 0]) ∧ Bm.Mp w' p q 1 C n f ∧ Below w.heap.size w w' := by
  refine (vbitmap_any h hbm).mono ?_
  rintro r w' ⟨A, e, rfl, hof, hb⟩
  rw [show (n + 63) / 64 = 1 by omega, hr] at hof
  have hw : [Bm.wd f 0] = Bm.wds f 1 := rfl
  rcases hof with ⟨_, rfl, p, q, C, rfl, _, _, hM⟩ | ⟨hng, _⟩
  · rw [hw, fo_wds hfar (by omega)] at hM
    exact ⟨p, q, C, rfl, hM, hb⟩
  · exact absurd (by rw [hw]; exact good_wds hfar) hng
theorem wds_new1 (w : World) (X : Nat) (hX : X < 18446744073709551616) : Pack.Wds (w.alloc (.cells #[.int .u64 (X : Int)] 85)) (some ⟨w.heap.size, 0, none⟩) [X] :=
  ⟨fun x hx => by rw [List.mem_singleton.1 hx]; exact hX, by simp, fun j hj => ⟨w.heap.size, 0, rfl, by simp, by
    obtain rfl : j = 0 := by simpa using hj
    exact Pack.alloc_cell w _ _ 0⟩⟩
/-- how many of the first words aren't 0 -/
def nz (L : List Nat) (j : Nat) : Nat := ((L.take j).filter fun x => x != 0).length
theorem nz_le (L : List Nat) (j : Nat) : nz L j ≤ j := by
  unfold nz
  refine Nat.le_trans (List.length_filter_le _ _) ?_
  rw [List.length_take]
  omega
theorem nz_step {L : List Nat} {j : Nat} (h : j < L.length) : nz L (j + 1) = nz L j + if L[j] = 0 then 0 else 1 := by
  unfold nz
  rw [List.take_succ_eq_append_getElem h, List.filter_append, List.length_append]
  congr 1
  by_cases e : L[j] = 0
  · rw [if_pos e, e]
    rfl
  · rw [if_neg e, List.filter_cons_of_pos (by simpa using e)]
    rfl
theorem nts0_zero : nts0 8 = Rec.zero := rfl
theorem wds_one (f : Nat → Bool) : Bm.wds f 1 = [Bm.wd f 0] := rfl
section
variable {ws : List Nat}
set_option maxHeartbeats 4000000 in
set_option maxRecDepth 100000 in
theorem maps_law (w : World) (hT : Bm.Tab w) (x y k : Nat) (hx : x < 256) (hy : y < 256) (hk : k < 256) (A : Option Addr) (c : Nat) (hws : Pack.Wds w A ws) (nn : Nat) (U : Option Addr) (uc : Nat) (us : List Int) (hus : Pack.Nts w U us) (p q r t : Int) :
    Calls Tryz.prog 7 #[.agg #[.int .u8 (x : Int), .int .u8 (y : Int), .int .u8 (k : Int), .slice A ws.length c], .int .u8 (nn : Int), .slice U us.length uc, .agg #[.int .i64 p, .int .i64 q, .int .i64 r, .int .i64 t]] w fun r w' => r = .returned (.bool true) ∧ Below w.heap.size w w' := by
  have HUS := Lib.hid hus
  clear hus
  obtain ⟨sl, bm, bk, E, hpl⟩ := pl_any x y k
  have HL := Lib.hid (fun w' (hb : Below w.heap.size w w') => lives_any w' (hT.below hb hT.lt))
  have HO := Lib.hid (fun w' (hb : Below w.heap.size w w') => lopen_any w' x y k hx hy hk A c (hws.keep hb) hpl)
  have HP := Lib.hid hpl
  obtain ⟨n, hn⟩ : ∃ n, n = gn x := ⟨_, rfl⟩
  obtain ⟨m, hm⟩ : ∃ m, m = gn y := ⟨_, rfl⟩
  obtain ⟨s, hs⟩ : ∃ s, s = gs k := ⟨_, rfl⟩
  rw [← hn, ← hm, ← hs] at HP HO
  clear hn hm hs hpl hT hws
  go_enter Tryz.func7, Tryz.ntmps7
  have hb0 := (Below.refl w.heap.size w).alloc (Nat.le_refl _) (.cells #[.int .u8 (x : Int), .int .u8 (y : Int), .int .u8 (k : Int), .slice A ws.length c] 24)
  have hz0 := World.size_alloc w (.cells #[.int .u8 (x : Int), .int .u8 (y : Int), .int .u8 (k : Int), .slice A ws.length c] 24)
  have HR0 := Lib.hid (hb_new w #[.int .u8 (x : Int), .int .u8 (y : Int), .int .u8 (k : Int), .slice A ws.length c] 24)
  go_wp2_with fail
  generalize w.alloc (.cells #[.int .u8 (x : Int), .int .u8 (y : Int), .int .u8 (k : Int), .slice A ws.length c] 24) = w0 at *
  have hb1 := hb0.alloc hb0.size (.cells #[.int .i64 p, .int .i64 q, .int .i64 r, .int .i64 t] 70)
  have hv1 := hb_new w0 #[.int .i64 p, .int .i64 q, .int .i64 r, .int .i64 t] 70
  rw [hz0] at hv1
  have HB1 := Lib.hid hb1
  have HS1 := Lib.hid hv1
  have HR1 := Lib.hid (HR0.out.keep ((Below.refl w0.heap.size w0).alloc (Nat.le_refl _) (.cells #[.int .i64 p, .int .i64 q, .int .i64 r, .int .i64 t] 70)))
  clear hb0 hz0 hb1 hv1 HR0
  generalize w0.alloc (.cells #[.int .i64 p, .int .i64 q, .int .i64 r, .int .i64 t] 70) = w1 at *
  clear w0
  refine (HL.out _ HB1.out).mono ?_
  rintro e w2 ⟨rfl, hb⟩
  have HS2 := Lib.hid (HS1.out.keep hb)
  have HR2 := Lib.hid (HR1.out.keep hb)
  have HB2 := Lib.hid (HB1.out.trans (hb.mono HB1.out.size))
  clear hb HS1 HB1 HR1
  have r0 := HR2.out.cell 0
  have r1 := HR2.out.cell 1
  have r2 := HR2.out.cell 2
  have r3 := HR2.out.cell 3
  have rl := HR2.out.lt
  by_cases hlong : 60 < us.length
  · have hg : decide (60 < (us.length : Int)) = true := decide_eq_true (by omega)
    go_wp2_with fail
    refine (HL.out _ HB2.out).mono ?_
    rintro e w3 ⟨rfl, hb⟩
    have HB3 := Lib.hid (HB2.out.trans (hb.mono HB2.out.size))
    clear hb
    go_wp2
    go_ret
    exact ⟨rfl, HB3.out⟩
  have hu60 : us.length ≤ 60 := by omega
  have hg : decide (60 < (us.length : Int)) = false := decide_eq_false (by omega)
  have HU60 := Lib.hid hu60
  clear hlong
  go_wp2_with fail
  refine (HO.out _ HB2.out).mono ?_
  rintro e w3 ⟨Q, vb, a, g, gc, rfl, hov⟩
  clear r0 r1 r2 r3 rl HR2 hg
  have HB3 := Lib.hid (HB2.out.trans (hov.below.mono HB2.out.size))
  have HS3 := Lib.hid (HS2.out.keep hov.below)
  have HQS := Lib.hid (hov.ql _ HS2.out.lt)
  have HQW := Lib.hid (show ∀ k, k < w.heap.size → Q k from fun k hk => hov.ql k (Nat.lt_of_lt_of_le hk HB2.out.size))
  have HQG := Lib.hid hov.qg
  have HLN := Lib.hid hov.len
  have hb4 := (Below.refl w3.heap.size w3).alloc (Nat.le_refl _) (.cells #[.int .i64 (n : Int), .int .i64 (m : Int), .int .i64 (s : Int), .int .i64 16, .int .i64 (sl : Int), .int .i64 (bm : Int), .int .i64 (bk : Int), .int .i64 (E : Int), .slice (some ⟨g, 0, none⟩) E gc] 30)
  have HX4 := Lib.hid (hb_new w3 #[.int .i64 (n : Int), .int .i64 (m : Int), .int .i64 (s : Int), .int .i64 16, .int .i64 (sl : Int), .int .i64 (bm : Int), .int .i64 (bk : Int), .int .i64 (E : Int), .slice (some ⟨g, 0, none⟩) E gc] 30)
  have HV4 := Lib.hid (hov.vo.grow hb4)
  have HD4 := Lib.hid (hov.wds.keep hb4)
  have HS4 := Lib.hid (HS3.out.keep hb4)
  have HB4 := Lib.hid (HB3.out.trans (hb4.mono HB3.out.size))
  clear hov hb4 HO HS2 HB2 HS3 HB3
  unfold dv
  obtain ⟨N, hN⟩ : ∃ N, N = nn % 24 := ⟨_, rfl⟩
  have hN2 : (nn : Int) % 24 = (N : Int) := by omega
  have hN3 : N ≤ 23 := by omega
  have HNA := Lib.hid (fun w => Bm.new_any (N : Int) N ((N + 63) / 64) (by omega) rfl w)
  have HNB := Lib.hid (fun (q : Nat) (w : World) (hq : q < w.heap.size) => Bm.refNew_any (w := w) (q := q) (N : Int) N (by omega) hq)
  clear hN
  go_wp2_with fail
  obtain ⟨Q4, hQ4⟩ : ∃ Q4 : Nat → Prop, Q4 = fun k => Q k ∨ (w3.heap.size ≤ k ∧ k < (w3.alloc (.cells #[.int .i64 (n : Int), .int .i64 (m : Int), .int .i64 (s : Int), .int .i64 16, .int .i64 (sl : Int), .int .i64 (bm : Int), .int .i64 (bk : Int), .int .i64 (E : Int), .slice (some ⟨g, 0, none⟩) E gc] 30)).heap.size) := ⟨_, rfl⟩
  rw [← hQ4] at HV4
  have HQ4 := Lib.hid (show Q4 w3.heap.size ∧ Q4 g ∧ Q4 (w.heap.size + 1) ∧ ∀ k, k < w.heap.size → Q4 k by rw [hQ4]; exact ⟨.inr ⟨Nat.le_refl _, by simp⟩, .inl HQG.out, .inl HQS.out, fun k h => .inl (HQW.out k h)⟩)
  clear hQ4
  generalize w3.alloc (.cells #[.int .i64 (n : Int), .int .i64 (m : Int), .int .i64 (s : Int), .int .i64 16, .int .i64 (sl : Int), .int .i64 (bm : Int), .int .i64 (bk : Int), .int .i64 (E : Int), .slice (some ⟨g, 0, none⟩) E gc] 30) = w4 at *
  generalize w3.heap.size = b3 at *
  clear w3
  generalize rawW n m s E ws = D at *
  have HM4 := Lib.hid (show Ms w Q4 vb a g gc b3 (w.heap.size + 1) n m s sl bm bk E D #[.int .i64 p, .int .i64 q, .int .i64 r, .int .i64 t] D 0 0 w4 from ⟨HV4.out, HD4.out, HX4.out, HS4.out, HB4.out, HQ4.out.1, HQ4.out.2.1, HQ4.out.2.2.1, HQ4.out.2.2.2⟩)
  clear HV4 HD4 HX4 HS4 HB4 HQ4 HQG HQS HQW Q
  refine (HNA.out _).mono ?_
  rintro e w5 ⟨rfl, hmp, hb⟩
  have HMP5 := Lib.hid hmp
  have HB5 := Lib.hid hb
  clear hmp hb HNA
  generalize hpm : w4.heap.size + 1 = pm at *
  generalize hqm : w4.heap.size = qm at *
  have HNC := Lib.hid (HNB.out qm w5 HMP5.out.row.lt)
  clear HNB
  go_wp2_with fail
  refine HNC.out.mono ?_
  rintro e w6 ⟨rfl, hbl, hb⟩
  have HBL6 := Lib.hid hbl
  have HMP6 := Lib.hid (HMP5.out.keep hb)
  have HB6 := Lib.hid (show Below qm w4 w6 from HB5.out.trans (hb.mono (by rw [← hqm]; exact HB5.out.size)))
  have HW5 := Lib.hid (show qm ≤ w5.heap.size by have := HB5.out.size; omega)
  clear hbl hb HB5 HMP5 HNC
  have HSZ := Lib.hid (show w.heap.size ≤ qm ∧ qm ≤ w6.heap.size from ⟨by rw [← hqm]; exact HM4.out.below.size, by have := HB6.out.size; omega⟩)
  have HPT := Lib.hid (Bm.put_any HMP6.out U uc us (fun w' hc => HUS.out.keep ((HM4.out.below.trans (HB6.out.mono HSZ.out.1)).trans (hc.below (Nat.le_trans HSZ.out.1 HSZ.out.2) HSZ.out.1))))
  go_wp2_with fail
  refine HPT.out.mono ?_
  rintro e w7 ⟨rfl, hmp, hc⟩
  have HMP7 := Lib.hid hmp
  have HBL7 := Lib.hid (HBL6.out.chg hc)
  have HB7 := Lib.hid (HB6.out.trans (hc.below HSZ.out.2 (Nat.le_refl _)))
  have HSZ7 := Lib.hid (show w.heap.size ≤ qm ∧ qm ≤ w7.heap.size from ⟨HSZ.out.1, Nat.le_trans HSZ.out.2 hc.size⟩)
  have HQN := Lib.hid (show Pack.Nts w7 U us from HUS.out.keep ((HM4.out.below.trans (HB6.out.mono HSZ.out.1)).trans (hc.below (Nat.le_trans HSZ.out.1 HSZ.out.2) HSZ.out.1)))
  clear hmp hc HPT HMP6 HBL6 HB6 HSZ
  go_wp2_with fail
  go_loopw [12, 63] (fun v i wr => ∃ (j : Nat) (BA : Option Addr) (bc : Nat), j ≤ us.length ∧ i = .int .i64 (j : Int) ∧ v = .slice BA N bc ∧ Bm.Bls wr qm BA N (Bm.tn N true (fun _ => false) (us.take j)).1 ∧ (∀ p, BA = some p → qm ≤ p.block) ∧ Below w7.heap.size w7 wr) (fun _ i _ => us.length - (intOf i).toNat)
  case atStart => exact ⟨0, _, N, Nat.zero_le _, rfl, rfl, HBL7.out, fun p hp => by injection hp with hp; subst hp; exact HW5.out, Below.refl _ _⟩
  case round =>
    obtain ⟨j, BA, bc, hj, rfl, rfl, hbl, hba, hb⟩ := hrel
    have HBL := Lib.hid hbl
    have HBA := Lib.hid hba
    have HBW := Lib.hid hb
    clear hbl hba hb
    by_cases hlt : j < us.length
    · obtain ⟨ub, uo, hue, hub, hcell⟩ := (HQN.out.keep HBW.out).at' j hlt
      subst hue
      have HST := Lib.hid (Bm.tn_step N true (fun _ => false) us j hlt)
      generalize us[j] = b at *
      have hi0 : (0 : Int) ≤ (j : Int) := by omega
      have hi1 : (j : Int) < (us.length : Int) := by omega
      have HTU := Lib.hid (Bm.turn_at BA bc HBL.out (by omega) (by have := HMP7.out.row.lt; have := HBW.out.size; omega) b true)
      go_wp2_with fail
      refine HTU.out.mono ?_
      rintro e w9 ⟨BA2, bc2, rfl, hbl, hba, hb⟩
      have HBL2 := Lib.hid (show Bm.Bls w9 qm BA2 N (Bm.tn N true (fun _ => false) (us.take (j + 1))).1 by rw [HST.out]; exact hbl)
      have HBA2 := Lib.hid (show ∀ p, BA2 = some p → qm ≤ p.block from fun p hp => by
        rcases hba with hba | hba
        · exact HBA.out p (hba ▸ hp)
        · have := hba p hp
          have := HBW.out.size
          have := HSZ7.out.2
          omega)
      have HBW2 := Lib.hid (HBW.out.trans (hb.mono HBW.out.size))
      clear hbl hba hb HTU
      generalize Bm.trd N true (Bm.tn N true (fun _ => false) (us.take j)).1 b = tb at *
      go_wp2
      refine ⟨⟨j + 1, BA2, bc2, by omega, by go_num, rfl, HBL2.out, HBA2.out, HBW2.out⟩, by simp [intOf]; omega⟩
    · obtain rfl : us.length = j := by omega
      rw [List.take_length] at HBL
      obtain ⟨f, hf⟩ : ∃ f, f = (Bm.tn N true (fun _ => false) us).1 := ⟨_, rfl⟩
      rw [← hf] at HBL HMP7
      clear hf
      obtain ⟨w8, hw8⟩ : ∃ w8, w8 = wr := ⟨_, rfl⟩
      rw [← hw8] at HBL HBW ⊢
      have HMP8 := Lib.hid (HMP7.out.keep HBW.out)
      have hbg := HB7.out.trans (HBW.out.mono HSZ7.out.2)
      rw [← hqm] at hbg
      have hmg := HM4.out.grow hbg
      obtain ⟨Q8, hQ8⟩ : ∃ Q8 : Nat → Prop, Q8 = fun k => Q4 k ∨ (w4.heap.size ≤ k ∧ k < w8.heap.size) := ⟨_, rfl⟩
      rw [← hQ8] at hmg
      have HT8 := Lib.hid (show Mt w Q8 vb a g gc b3 (w.heap.size + 1) n m s sl bm bk E D #[.int .i64 p, .int .i64 q, .int .i64 r, .int .i64 t] pm qm ((N + 63) / 64) N BA f D 0 0 w8 from
        ⟨hmg, HMP8.out, HBL.out, by rw [hQ8]; exact .inr ⟨by omega, HMP8.out.lt⟩, by rw [hQ8]; exact .inr ⟨by omega, HMP8.out.row.lt⟩, fun h0 ad had => by
          rw [hQ8]
          refine .inr ⟨by have := HBA.out ad had; omega, ?_⟩
          obtain ⟨b, o, e, h1, _⟩ := HBL.out.at' 0 h0
          rw [had] at e
          injection e with e
          subst e
          exact h1⟩)
      clear hmg hbg hw8 hQ8 HMP8 HBL HBA HBW HMP7 HBL7 HB7 HSZ7 HQN HW5 hqm hpm HM4 Q4 hlt hj hN2 HU60 HUS
      by_cases hNn : N = n
      · obtain rfl := hNn
        have hn20 := HP.out.n20
        have hat := HP.out.at
        have hbm : bm + 1 ≤ D.length := by
          rw [HLN.out]
          have : 0 < N * (s / 8) := Nat.mul_pos (by omega) (by have := HP.out.s2; omega)
          omega
        have HBM := Lib.hid (show bm + 1 ≤ D.length ∧ bm ≤ 540 from ⟨hbm, by omega⟩)
        rw [show (N + 63) / 64 = 1 by omega] at HT8
        have hsb := setBitmap_yes HT8.out.ms.vo HP.out.e2 HT8.out.mp (by omega)
        rw [wds_one] at hsb
        obtain ⟨X, hX⟩ : ∃ X, X = Bm.wd f 0 := ⟨_, rfl⟩
        obtain ⟨wt, hf1, hf2, hf3, hf4⟩ := dif_facts D bm X hbm
        rw [← hX, hf1, hf2, hf3] at hsb
        have HWT := Lib.hid hf4
        have HXX := Lib.hid hX
        have HC := Lib.hid hsb
        have hwt1 : wt ≤ 1 := by omega
        clear hsb hf1 hf2 hf3 hf4 hX hat hbm
        go_wp2_with fail
        refine HC.out.mono ?_
        rintro e w9 ⟨rfl, hv, hk⟩
        obtain ⟨tw, htw⟩ : ∃ tw, tw = 2 * wt := ⟨_, rfl⟩
        rw [show 0 + wt + wt = tw by omega, show 0 + wt = wt by omega] at hv
        have HTW := Lib.hid htw
        clear htw
        have HT9 := Lib.hid (HT8.out.next hv hk)
        clear hv hk HC HT8
        have HC := Lib.hid (setBitmap_nil HT9.out.ms.vo)
        go_wp2_with fail
        refine HC.out.mono ?_
        rintro e w10 ⟨rfl, hb⟩
        have HT10 := Lib.hid (HT9.out.keep hb)
        clear hb HC HT9
        have c0 := HT10.out.ms.box.cell 0
        have c1 := HT10.out.ms.box.cell 1
        have c2 := HT10.out.ms.box.cell 2
        have c3 := HT10.out.ms.box.cell 3
        have c4 := HT10.out.ms.box.cell 4
        have c5 := HT10.out.ms.box.cell 5
        have c6 := HT10.out.ms.box.cell 6
        have c7 := HT10.out.ms.box.cell 7
        have c8 := HT10.out.ms.box.cell 8
        have hxl := HT10.out.ms.box.lt
        have hne : ((N : Int) != (N : Int)) = false := by simp
        have HRW := Lib.hid (Bm.refWords_any BA bc 1 HT10.out.bls (by omega) HT10.out.mp.far (by omega))
        go_wp2_with fail
        refine HRW.out.mono ?_
        rintro e w11 ⟨rfl, hrow, hb⟩
        have HT11 := Lib.hid (HT10.out.keep hb)
        have hrc := hrow.cell (i := 0) (by omega)
        rw [← HXX.out] at hrc
        have hrl := hrow.lt
        clear hb hrow HT10 HRW
        have c5 := HT11.out.ms.box.cell 5
        have c8 := HT11.out.ms.box.cell 8
        have hxl := HT11.out.ms.box.lt
        obtain ⟨gb, go, hge, hgl, hgc⟩ := HT11.out.ms.wds.at' bm (by have := HBM.out; omega)
        injection hge with hge
        injection hge with hge1 hge2
        subst hge1 hge2
        rw [Nat.zero_add] at hgc
        have hbx0 : (0 : Int) ≤ (bm : Int) := by omega
        have hbx1 : (bm : Int) < (E : Int) := by have := HBM.out; have := HLN.out; omega
        have hwx := HWT.out
        rw [List.getElem?_eq_getElem (show bm < D.length by have := HBM.out; omega), Option.getD_some] at hwx
        generalize D[bm]'(by have := HBM.out; omega) = z at *
        have HWX := Lib.hid hwx
        clear hwx
        go_upto_if 119 with fail
        go_cut [20] (fun v wx => v = .int .i64 (wt : Int) ∧ w11 = wx)
        case first =>
          rcases HWX.out with ⟨h1, h2⟩ | ⟨h1, h2⟩
          · subst h1 h2
            have hq : ((z : Int) != (z : Int)) = false := by simp
            go_wp2_with fail
            go_meet
            exact ⟨rfl, rfl⟩
          · have hq : ((z : Int) != (X : Int)) = true := by simp; omega
            subst h2
            go_wp2_with fail
            go_meet
            exact ⟨rfl, rfl⟩
        case rest =>
          obtain ⟨rfl, rfl⟩ := hcut
          clear c0 c1 c2 c3 c4 c5 c6 c7 c8 hxl hrc hrl hgc hgl hbx0 hbx1 hne
          have hrd := rdw_puts D bm [X] HBM.out.1
          have HC := Lib.hid (vbitmap_is HT11.out.ms.vo HP.out.e2 HP.out.n20 (by rw [← HXX.out]; exact hrd) HT11.out.mp.far)
          have HXL := Lib.hid (show X < 18446744073709551616 by rw [HXX.out]; exact Bm.wd_lt f 0)
          clear hrd
          go_wp2_with fail
          refine HC.out.mono ?_
          rintro e w12 ⟨p', q', C', rfl, hg, hb⟩
          have HT12 := Lib.hid (HT11.out.keep hb)
          have HG12 := Lib.hid hg
          clear hg hb HC HT11
          have c0 := HT12.out.ms.box.cell 0
          have c1 := HT12.out.ms.box.cell 1
          have c2 := HT12.out.ms.box.cell 2
          have c3 := HT12.out.ms.box.cell 3
          have c4 := HT12.out.ms.box.cell 4
          have c5 := HT12.out.ms.box.cell 5
          have c6 := HT12.out.ms.box.cell 6
          have c7 := HT12.out.ms.box.cell 7
          have c8 := HT12.out.ms.box.cell 8
          have hxl := HT12.out.ms.box.lt
          have hba := (Below.refl w12.heap.size w12).alloc (Nat.le_refl _) (.cells #[.int .u64 (X : Int)] 85)
          have HN1 := Lib.hid (wds_new1 w12 X HXL.out)
          have HT13 := Lib.hid (HT12.out.keep hba)
          have HG13 := Lib.hid (HG12.out.keep hba)
          clear hba HT12 HG12
          go_wp2_with fail
          generalize w12.alloc (.cells #[.int .u64 (X : Int)] 85) = w13 at *
          have HC := Lib.hid (show Calls Tryz.prog 42 #[.agg (dv N m s sl bm bk E (.slice (some ⟨g, 0, none⟩) E gc)), .int .i64 (bm : Int), .slice (some ⟨w12.heap.size, 0, none⟩) 1 1] w13 fun r w' =>
              ∃ g' gc' : Nat, r = .returned (.tuple #[.agg (dv N m s sl bm bk E (.slice (some ⟨g', 0, none⟩) E gc')), .int .i64 (lc bm 1 : Nat)]) ∧ w13.heap.size ≤ g' ∧ Pack.Wds w' (some ⟨g', 0, none⟩) (puts D (sto bm [X])) ∧ Below w13.heap.size w13 w' from
            put_any w13 g gc bm D [X] (some ⟨w12.heap.size, 0, none⟩) 1 HT13.out.ms.wds HLN.out (by have := HP.out.at; omega) (by have := HBM.out; have := HLN.out; omega) HN1.out (by have := HBM.out; have := HLN.out; simp; omega))
          clear HN1 c0 c1 c2 c3 c4 c5 c6 c7 c8 hxl
          unfold dv at HC
          refine HC.out.mono ?_
          rintro e w14 ⟨gy, gcy, rfl, _, hwy, hb⟩
          have hb15 := (Below.refl w14.heap.size w14).alloc (Nat.le_refl _) (.cells #[.int .i64 (N : Int), .int .i64 (m : Int), .int .i64 (s : Int), .int .i64 16, .int .i64 (sl : Int), .int .i64 (bm : Int), .int .i64 (bk : Int), .int .i64 (E : Int), .slice (some ⟨gy, 0, none⟩) E gcy] 30)
          have HT15 := Lib.hid ((HT13.out.keep hb).keep hb15)
          have HG15 := Lib.hid ((HG13.out.keep hb).keep hb15)
          have HWY15 := Lib.hid (hwy.keep hb15)
          have HY15 := Lib.hid (hb_new w14 #[.int .i64 (N : Int), .int .i64 (m : Int), .int .i64 (s : Int), .int .i64 16, .int .i64 (sl : Int), .int .i64 (bm : Int), .int .i64 (bk : Int), .int .i64 (E : Int), .slice (some ⟨gy, 0, none⟩) E gcy] 30)
          clear hwy hb hb15 HC HT13 HG13
          go_wp2_with fail
          have hW1 : (puts D (sto bm [X])).length = E := by rw [puts_len, HLN.out]
          have HW1 := Lib.hid hW1
          clear hW1
          obtain ⟨W1, hW1⟩ : ∃ W1, W1 = puts D (sto bm [X]) := ⟨_, rfl⟩
          rw [← hW1] at HT15 HWY15 HW1
          clear hW1
          have htw := HTW.out
          have hq0 : ((wt : Int) != (wt : Int)) = false := by simp
          have hsum : 2 * (wt : Int) = (tw : Int) := by omega
          have hwr : IntKind.wrap .i64 (tw : Int) = (tw : Int) := by rw [IntKind.wrap_i64]; omega
          have hq1 : ((tw : Int) != (tw : Int)) = false := by simp
          have hE0 : 0 < W1.length := by rw [HW1.out]; have := HBM.out; have := HLN.out; omega
          have HE0 := Lib.hid hE0
          have HLE := Lib.hid (show E ≤ 540 by have := HP.out.at; omega)
          clear htw hE0
          generalize w14.alloc (.cells #[.int .i64 (N : Int), .int .i64 (m : Int), .int .i64 (s : Int), .int .i64 16, .int .i64 (sl : Int), .int .i64 (bm : Int), .int .i64 (bk : Int), .int .i64 (E : Int), .slice (some ⟨gy, 0, none⟩) E gcy] 30) = wa at *
          generalize w14.heap.size = by' at *
          have hy0 := HY15.out.cell 8
          have hyl := HY15.out.lt
          have HTd := Lib.hid (HT15.out.keep (bel_d wa))
          have HGd := Lib.hid (HG15.out.keep (bel_d wa))
          go_upto_region 25 with fail
          go_cut [179] (fun v wx => v = .bool false ∧ Below wa.heap.size wa wx)
          case first =>
            go_region_held3 (fun W' => W'.cell? ⟨by', 8, none⟩ = some (.slice (some ⟨gy, 0, none⟩) E gcy)) (go_keep)
              (first
              | (go_at_call 43
                 with_reducible refine (Bm.same_yes HGd.out HTd.out.mp).mono ?_
                 rintro e wb ⟨rfl, kb, hwb⟩
                 have HBb := Lib.hid (show Below wa.heap.size wa wb by rw [hwb]; exact (bel_d wa).trans ((below_dn wa.drew kb).mono (bel_d wa).size))
                 have HTb := Lib.hid (HT15.out.keep HBb.out)
                 have hyb := (HY15.out.keep HBb.out).cell 8
                 clear hwb)
              | (go_at_call 12
                 with_reducible refine (device_any HTb.out.ms.vo).mono ?_
                 rintro e wc ⟨rfl, rfl⟩)
              | (go_at_call 14
                 with_reducible refine (up_words HTb.out.ms.vo.up HE0.out).mono ?_
                 rintro e wc ⟨gw, cw, rfl, _, hwd, hb⟩
                 have HBc := Lib.hid (HBb.out.trans (hb.mono HBb.out.size))
                 have HTc := Lib.hid (HT15.out.keep HBc.out)
                 have HWc := Lib.hid hwd
                 have HVc := Lib.hid (HWY15.out.keep HBc.out)
                 have hyc := (HY15.out.keep HBc.out).cell 8
                 have HLS := Lib.hid (show Calls Tryz.prog 13 #[.slice (some ⟨gw, 0, none⟩) W1.length cw, .slice (some ⟨gy, 0, none⟩) E gcy] wc fun e w' => e = .returned (.bool true) ∧ ∃ n, w' = wc.drewN n by
                   rw [← HW1.out]
                   exact lsame_any HWc.out HVc.out)
                 clear hwd hb)
              | (go_at_call 13
                 with_reducible refine HLS.out.mono ?_
                 rintro e wd ⟨rfl, kd, hwd⟩
                 have HBd := Lib.hid (show Below wa.heap.size wa wd by rw [hwd]; exact HBc.out.trans ((below_dn wc kd).mono HBc.out.size))
                 have HTe := Lib.hid (HT15.out.keep HBd.out)
                 have hyd := (HY15.out.keep HBd.out).cell 8
                 clear hwd)
              | (go_at_call 12
                 with_reducible refine (device_any HTe.out.ms.vo).mono ?_
                 rintro e wf ⟨rfl, rfl⟩)
              | (go_at_call 44
                 with_reducible refine (up_stores HTe.out.ms.vo.up).mono ?_
                 rintro e wf ⟨rfl, rfl⟩)
              | (go_at_call 45
                 with_reducible refine (up_steps HTe.out.ms.vo.up).mono ?_
                 rintro e wf ⟨rfl, rfl⟩))
            go_wp2_with fail
            go_meet
            exact ⟨rfl, HBd.out⟩
          case rest =>
            obtain ⟨rfl, hb⟩ := hcut
            have HT16 := Lib.hid (HT15.out.keep hb)
            have HWY16 := Lib.hid (HWY15.out.keep hb)
            have HY16 := Lib.hid (HY15.out.keep hb)
            clear hb hq0 hq1 hsum hwr hy0 hyl HTd HGd HT15 HG15 HWY15 HY15
            have x0 := HT16.out.ms.rcd.cell 0
            have x1 := HT16.out.ms.rcd.cell 1
            have x2 := HT16.out.ms.rcd.cell 2
            have x3 := HT16.out.ms.rcd.cell 3
            have xl := HT16.out.ms.rcd.lt
            cases hm : Rec.may p q r t with
            | false =>
              have HMM := Lib.hid hm
              have HC := Lib.hid (setRecord_no HT16.out.ms.vo p q r t hm)
              clear hm
              go_wp2_with fail
              refine HC.out.mono ?_
              rintro e w17 ⟨rfl, hb⟩
              have HT17 := Lib.hid (HT16.out.keep hb)
              have HWY17 := Lib.hid (HWY16.out.keep hb)
              have HY17 := Lib.hid (HY16.out.keep hb)
              clear hb HC HT16 HWY16 HY16
              have HC := Lib.hid (Rec.refMay_any w17 p q r t)
              rw [HMM.out] at HC
              have x0 := HT17.out.ms.rcd.cell 0
              have x1 := HT17.out.ms.rcd.cell 1
              have x2 := HT17.out.ms.rcd.cell 2
              have x3 := HT17.out.ms.rcd.cell 3
              have xl := HT17.out.ms.rcd.lt
              go_wp2_with fail
              refine HC.out.mono ?_
              rintro e w18 ⟨rfl, hb⟩
              have HT18 := Lib.hid (HT17.out.keep hb)
              have HWY18 := Lib.hid (HWY17.out.keep hb)
              have HY18 := Lib.hid (HY17.out.keep hb)
              clear hb HC HT17 HWY17 HY17 x0 x1 x2 x3 xl
              have hy0 := HY18.out.cell 8
              have hyl := HY18.out.lt
              have HTd := Lib.hid (HT18.out.keep (bel_d w18))
              go_wp2_with fail
              go_region_held3 (fun W' => W'.cell? ⟨by', 8, none⟩ = some (.slice (some ⟨gy, 0, none⟩) E gcy)) (go_keep)
                (first
                | (go_at_call 12
                   with_reducible refine (device_any HTd.out.ms.vo).mono ?_
                   rintro e wc ⟨rfl, rfl⟩)
                | (go_at_call 14
                   with_reducible refine (up_words HTd.out.ms.vo.up HE0.out).mono ?_
                   rintro e wc ⟨gw, cw, rfl, _, hwd, hb⟩
                   have HBc := Lib.hid (show Below w18.heap.size w18 wc from (bel_d w18).trans (hb.mono (bel_d w18).size))
                   have HTc := Lib.hid (HT18.out.keep HBc.out)
                   have HWc := Lib.hid hwd
                   have HVc := Lib.hid (HWY18.out.keep HBc.out)
                   have hyc := (HY18.out.keep HBc.out).cell 8
                   have HLS := Lib.hid (show Calls Tryz.prog 13 #[.slice (some ⟨gw, 0, none⟩) W1.length cw, .slice (some ⟨gy, 0, none⟩) E gcy] wc fun e w' => e = .returned (.bool true) ∧ ∃ n, w' = wc.drewN n by
                     rw [← HW1.out]
                     exact lsame_any HWc.out HVc.out)
                   clear hwd hb)
                | (go_at_call 13
                   with_reducible refine HLS.out.mono ?_
                   rintro e wd ⟨rfl, kd, hwd⟩
                   have HBd := Lib.hid (show Below w18.heap.size w18 wd by rw [hwd]; exact HBc.out.trans ((below_dn wc kd).mono HBc.out.size))
                   have hyd := (HY18.out.keep HBd.out).cell 8
                   clear hwd))
              go_wp2
              go_ret
              exact ⟨rfl, HT18.out.ms.below.trans (HBd.out.mono HT18.out.ms.below.size)⟩
            | true =>
              obtain ⟨p1, q1, r1, t1, h1, h2, h3, h4⟩ := Rec.may_nat hm
              subst h1 h2 h3 h4
              have HMM := Lib.hid hm
              have HC := Lib.hid (setRecord_yes HT16.out.ms.vo p1 q1 r1 t1 hm (by have := HTW.out; omega))
              have HDL := Lib.hid (Rec.dec_ln hm)
              have HLU := Lib.hid (Rec.ln_u64 hm)
              obtain ⟨L, hL⟩ : ∃ L, L = Rec.ln p1 q1 r1 t1 := ⟨_, rfl⟩
              have HL8 := Lib.hid (show L.length = 8 by rw [hL]; rfl)
              rw [← hL] at HC HDL HLU
              have HLL := Lib.hid hL
              clear hm hL
              go_wp2_with fail
              refine HC.out.mono ?_
              rintro e w17 ⟨rfl, hv, hk⟩
              have HT17 := Lib.hid (HT16.out.next hv hk)
              clear hv hk HC HT16 HWY16 HY16 x0 x1 x2 x3 xl
              have HC := Lib.hid (Rec.refMay_any w17 p1 q1 r1 t1)
              rw [HMM.out] at HC
              have x0 := HT17.out.ms.rcd.cell 0
              have x1 := HT17.out.ms.rcd.cell 1
              have x2 := HT17.out.ms.rcd.cell 2
              have x3 := HT17.out.ms.rcd.cell 3
              have xl := HT17.out.ms.rcd.lt
              go_wp2_with fail
              refine HC.out.mono ?_
              rintro e w18 ⟨rfl, hb⟩
              have HT18 := Lib.hid (HT17.out.keep hb)
              clear hb HC HT17 x0 x1 x2 x3 xl
              have hrd := rdw_puts W1 8 L (by rw [HL8.out, HW1.out]; have := HP.out.at; omega)
              rw [HL8.out] at hrd
              have hC := vrecord_any HT18.out.ms.vo
              rw [hrd, HDL.out, Rec.st_some HDL.out] at hC
              have HC := Lib.hid hC
              have HRD := Lib.hid hrd
              clear hC hrd
              simp only [Rec.gv] at HC
              go_wp2_with fail
              refine HC.out.mono ?_
              rintro e w19 ⟨rfl, hb⟩
              have hb20 := hb.alloc hb.size (.cells #[.int .i64 (p1 : Int), .int .i64 (q1 : Int), .int .i64 (r1 : Int), .int .i64 (t1 : Int)] 70)
              have HT20 := Lib.hid (HT18.out.keep hb20)
              have HA20 := Lib.hid (hb_new w19 #[.int .i64 (p1 : Int), .int .i64 (q1 : Int), .int .i64 (r1 : Int), .int .i64 (t1 : Int)] 70)
              clear hb hb20 HC HT18
              have HSY := Lib.hid (sync_any HT20.out.ms.vo (by have := HTW.out; have := lc_le 8 8; omega))
              have a0 := HA20.out.cell 0
              have a1 := HA20.out.cell 1
              have a2 := HA20.out.cell 2
              have a3 := HA20.out.cell 3
              have al := HA20.out.lt
              have x0 := HT20.out.ms.rcd.cell 0
              have x1 := HT20.out.ms.rcd.cell 1
              have x2 := HT20.out.ms.rcd.cell 2
              have x3 := HT20.out.ms.rcd.cell 3
              have xl := HT20.out.ms.rcd.lt
              go_upto_region 31 with fail
              generalize w19.alloc (.cells #[.int .i64 (p1 : Int), .int .i64 (q1 : Int), .int .i64 (r1 : Int), .int .i64 (t1 : Int)] 70) = w20 at *
              generalize w19.heap.size = ba at *
              go_wp2_with fail
              refine HSY.out.mono ?_
              rintro e w21 ⟨rfl, hv, hk⟩
              have HT21 := Lib.hid (HT20.out.next hv hk)
              clear hv hk HSY HT20 HA20 a0 a1 a2 a3 al x0 x1 x2 x3 xl
              have hen := Rec.refEncode_yes w21 p1 q1 r1 t1 HMM.out
              rw [← HLL.out] at hen
              have HEN := Lib.hid hen
              clear hen
              have x0 := HT21.out.ms.rcd.cell 0
              have x1 := HT21.out.ms.rcd.cell 1
              have x2 := HT21.out.ms.rcd.cell 2
              have x3 := HT21.out.ms.rcd.cell 3
              have xl := HT21.out.ms.rcd.lt
              go_wp2_with fail
              refine HEN.out.mono ?_
              rintro e w22 ⟨G, ec, rfl, hwd, hb⟩
              have HT22 := Lib.hid (HT21.out.keep hb)
              have HEW := Lib.hid hwd
              clear hwd hb HEN HT21 x0 x1 x2 x3 xl
              go_wp2_with fail
              go_loopw [28, 220] (fun sv i wr => ∃ j : Nat, j ≤ 8 ∧ i = .int .i64 (j : Int) ∧ sv = .int .i64 ((nz L j : Nat) : Int) ∧ w22 = wr) (fun _ i _ => 8 - (intOf i).toNat)
              case atStart => exact ⟨0, Nat.zero_le _, rfl, rfl, rfl⟩
              case round =>
                obtain ⟨j, hj, rfl, rfl, rfl⟩ := hrel
                by_cases hlt : j < 8
                · obtain ⟨eb, eo, hee, heb, hcell⟩ := HEW.out.at' j (by rw [HL8.out]; exact hlt)
                  subst hee
                  have hst := nz_step (L := L) (j := j) (by rw [HL8.out]; exact hlt)
                  have hle := nz_le L j
                  generalize L[j]'(by rw [HL8.out]; exact hlt) = z at *
                  generalize nz L j = cn at *
                  have hi0 : (0 : Int) ≤ (j : Int) := by omega
                  have hi1 : (j : Int) < 8 := by omega
                  by_cases hz : z = 0
                  · rw [if_pos hz] at hst
                    have HST := Lib.hid hst
                    have hq : ((z : Int) != 0) = false := by simp [hz]
                    clear hst hz
                    go_wp2
                    refine ⟨⟨j + 1, by omega, by go_num, ?_, by first | rfl | trivial⟩, by simp [intOf]; omega⟩
                    rw [HST.out]
                    first
                    | rfl
                    | go_num
                  · rw [if_neg hz] at hst
                    have HST := Lib.hid hst
                    have hq : ((z : Int) != 0) = true := by simp; omega
                    clear hst hz
                    go_wp2
                    refine ⟨⟨j + 1, by omega, by go_num, ?_, by first | rfl | trivial⟩, by simp [intOf]; omega⟩
                    rw [HST.out]
                    first
                    | rfl
                    | go_num
                · obtain rfl : 8 = j := by omega
                  obtain ⟨cz, hcz⟩ : ∃ cz, cz = nz L 8 := ⟨_, rfl⟩
                  rw [← hcz]
                  have hcr := clearRecord_any HT22.out.ms.vo (by have := HTW.out; have := lc_le 8 8; omega)
                  have hw2 : 8 + 8 ≤ (puts W1 (sto 8 L)).length := by rw [puts_len, HW1.out]; have := HP.out.at; omega
                  have hd1 := dif_zero (puts W1 (sto 8 L)) 8 8
                  rw [HRD.out] at hd1
                  have hd2 : (L.filter fun x => x != 0).length = cz := by
                    rw [hcz]
                    unfold nz
                    rw [List.take_of_length_le (by rw [HL8.out]; exact Nat.le_refl _)]
                  rw [hd2] at hd1
                  have hd3 := puts_dif (puts W1 (sto 8 L)) 8 (nts0 8) (by rw [nts0_len]; exact hw2)
                  have hd4 := lns_le (dif (puts W1 (sto 8 L)) 8 (nts0 8))
                  have hd5 := dif_done (puts W1 (sto 8 L)) 8 8 hw2
                  have hd6 := rdw_puts (puts W1 (sto 8 L)) 8 (nts0 8) (by rw [nts0_len]; exact hw2)
                  have hd7 := dif_le (puts W1 (sto 8 L)) 8 (nts0 8)
                  rw [nts0_len] at hd6 hd7
                  rw [hd1, hd3] at hcr
                  rw [hd1] at hd4 hd7
                  generalize puts (puts W1 (sto 8 L)) (sto 8 (nts0 8)) = W3 at *
                  generalize (lns (dif (puts W1 (sto 8 L)) 8 (nts0 8))).length = ln3 at *
                  have HCR := Lib.hid hcr
                  have HD5 := Lib.hid hd5
                  have HD6 := Lib.hid hd6
                  have HD7 := Lib.hid (show ln3 ≤ 8 ∧ cz ≤ 8 from ⟨by omega, hd7⟩)
                  have hqe : ((cz : Int) == (cz : Int)) = true := by simp
                  clear hcr hw2 hd1 hd2 hd3 hd4 hd5 hd6 hd7 hcz
                  go_wp2_with fail
                  refine HCR.out.mono ?_
                  rintro e w23 ⟨rfl, hv, hk⟩
                  have HT23 := Lib.hid (HT22.out.next hv hk)
                  clear hv hk HCR HT22 HEW
                  have hrc := vrecord_any HT23.out.ms.vo
                  rw [HD6.out, nts0_zero, Rec.dec_zero, Rec.st_zero] at hrc
                  simp only [Rec.gv] at hrc
                  have HRC := Lib.hid hrc
                  clear hrc
                  go_wp2_with fail
                  refine HRC.out.mono ?_
                  rintro e w24 ⟨rfl, hb⟩
                  have HT24 := Lib.hid (HT23.out.keep hb)
                  clear hb HRC HT23
                  have hcr := clearRecord_any HT24.out.ms.vo (by have := HTW.out; have := lc_le 8 8; have := HD7.out; omega)
                  rw [HD5.out] at hcr
                  have HCR := Lib.hid hcr
                  clear hcr
                  go_wp2_with fail
                  refine HCR.out.mono ?_
                  rintro e w25 ⟨rfl, hv, hk⟩
                  have HB25 := Lib.hid (HT24.out.next hv hk).ms.below
                  clear hv hk HCR HT24
                  go_wp2
                  go_ret
                  exact ⟨rfl, HB25.out⟩
      · have HC := Lib.hid (setBitmap_len HT8.out.ms.vo HT8.out.mp hNn)
        have hne : ((N : Int) != (n : Int)) = true := by simp; omega
        go_wp2_with fail
        refine HC.out.mono ?_
        rintro e w9 ⟨rfl, hb⟩
        have HT9 := Lib.hid (HT8.out.keep hb)
        clear hb HC HT8
        have HC := Lib.hid (setBitmap_nil HT9.out.ms.vo)
        go_wp2_with fail
        refine HC.out.mono ?_
        rintro e w10 ⟨rfl, hb⟩
        have HT10 := Lib.hid (HT9.out.keep hb)
        clear hb HC HT9
        have c0 := HT10.out.ms.box.cell 0
        have c1 := HT10.out.ms.box.cell 1
        have c2 := HT10.out.ms.box.cell 2
        have c3 := HT10.out.ms.box.cell 3
        have c4 := HT10.out.ms.box.cell 4
        have c5 := HT10.out.ms.box.cell 5
        have c6 := HT10.out.ms.box.cell 6
        have c7 := HT10.out.ms.box.cell 7
        have c8 := HT10.out.ms.box.cell 8
        have hxl := HT10.out.ms.box.lt
        have HST := Lib.hid (still_e (sl := sl) (bm := bm) (bk := bk) HT10.out.ms.vo g gc HT10.out.ms.wds HLN.out (by have := HP.out.at; omega))
        unfold dv at HST
        go_wp2_with fail
        refine HST.out.mono ?_
        rintro e w11 ⟨rfl, hb⟩
        have HB11 := Lib.hid (HT10.out.ms.below.trans (hb.mono HT10.out.ms.below.size))
        clear hb
        go_wp2
        go_ret
        exact ⟨rfl, HB11.out⟩
end
end Vol
end Go.Proofs.YtcojgpjappjobaaGreatDoor
