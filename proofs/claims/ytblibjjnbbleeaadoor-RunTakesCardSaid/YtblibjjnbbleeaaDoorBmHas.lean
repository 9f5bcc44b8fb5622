/- A new map; whether it has a block; how many it has. -/
import Derived.Test.YtblibjjnbbleeaaDoorBmSmall
namespace Go.Proofs.YtblibjjnbbleeaaDoor
open Go.RowKit Go.MapKept
namespace Bm
open Pack (Wds Nts)

section
variable {w : World}
theorem mp_new (w : World) (m K : Nat) (y : Int) (hy : y = (m : Int)) (hm : m ≤ 65534) (hK : K = (m + 63) / 64) : Mp ((w.alloc (.cells (madeCells #[.int .u64 0] K) 68)).alloc (.cells #[.int .i64 y, .slice (some ⟨w.heap.size, 0, none⟩) K K] 67)) (w.heap.size + 1) w.heap.size K K m (fun _ => false) := by
  have hr : Row (w.alloc (.cells (madeCells #[.int .u64 0] K) 68)) w.heap.size 68 K (fun k => .int .u64 (wd (fun _ => false) k : Int)) :=
    (row_of_is (World.rowIs_made w (.int .u64 0) K 68)).congr (fun i _ => by rw [wd_none]; rfl)
  have e : (w.alloc (.cells (madeCells #[.int .u64 0] K) 68)).heap.size = w.heap.size + 1 := by simp
  subst hy
  refine ⟨by simp, ?_, ?_, hr.of_block (Below.heap_alloc _ _ _ hr.lt), by omega, fun _ _ => rfl, hm, hK, Nat.le_refl _⟩
  · rw [← e, Pack.alloc_cell]; rfl
  · rw [← e, Pack.alloc_cell]; rfl
theorem wordsOf_int (y : Int) (m K : Nat) (hy : y = (m : Int)) (hm : m ≤ 65534) (hK : K = (m + 63) / 64) (w : World) : Calls Tryd.prog 43 #[.int .i64 y] w fun e w' => e = .returned (.int .i64 (K : Int)) ∧ w = w' := by
  subst hy hK
  exact wordsOf_any m hm w
theorem below_new (w : World) (K : Nat) (y : Int) : Below w.heap.size w ((w.alloc (.cells (madeCells #[.int .u64 0] K) 68)).alloc (.cells #[.int .i64 y, .slice (some ⟨w.heap.size, 0, none⟩) K K] 67)) := ((Below.refl _ _).alloc (Nat.le_refl _) _).alloc (by simp) _

set_option maxRecDepth 100000 in
theorem new_any (x : Int) (m K : Nat) (hm : (m : Int) = min (max x 0) 65534) (hK : K = (m + 63) / 64) (w : World) : Calls Tryd.prog 27 #[.int .i64 x] w fun e w' =>
    e = .returned (.pointer (some ⟨w.heap.size + 1, 0, none⟩)) ∧ Mp w' (w.heap.size + 1) w.heap.size K K m (fun _ => false) ∧ Below w.heap.size w w' := by
  have hm2 : m ≤ 65534 := by omega
  have HC := Lib.hid (fun w y hy => wordsOf_int y m K hy hm2 hK w)
  have HM := Lib.hid (fun y hy => mp_new w m K y hy hm2 hK)
  have HB := Lib.hid (fun y => below_new w K y)
  have hmk := run_make_row' (P := Tryd.prog) 65 68 _ 8 Tryd.underlying65 Pack.u64_info rfl .i64 .i64 K (by omega) (by omega) w
  clear hK
  rcases Int.lt_or_le x 0 with hn | hn
  · have hy : (0 : Int) = (m : Int) := by omega
    have HY := Lib.hid hy
    clear hm hm2 hy
    go_enter Tryd.func27, Tryd.ntmps27
    go_wp2_with (go_at_call 43; refine (HC.out _ _ HY.out).mono ?_; rintro e w' ⟨rfl, rfl⟩)
    go_ret
    exact ⟨rfl, HM.out _ HY.out, HB.out _⟩
  · rcases Int.lt_or_le 65534 x with hn2 | hn2
    · have hy : (65534 : Int) = (m : Int) := by omega
      have HY := Lib.hid hy
      clear hm hm2 hy
      go_enter Tryd.func27, Tryd.ntmps27
      go_wp2_with (go_at_call 43; refine (HC.out _ _ HY.out).mono ?_; rintro e w' ⟨rfl, rfl⟩)
      go_ret
      exact ⟨rfl, HM.out _ HY.out, HB.out _⟩
    · have hy : x = (m : Int) := by omega
      have HY := Lib.hid hy
      clear hm hm2 hy
      go_enter Tryd.func27, Tryd.ntmps27
      go_wp2_with (go_at_call 43; refine (HC.out _ _ HY.out).mono ?_; rintro e w' ⟨rfl, rfl⟩)
      go_ret
      exact ⟨rfl, HM.out _ HY.out, HB.out _⟩

variable {p q K C n : Nat} {f : Nat → Bool}
set_option maxRecDepth 100000 in
theorem has_no (h : Mp w p q K C n f) (b : Int) (hb : b < 0 ∨ (n : Int) ≤ b) : Calls Tryd.prog 12 #[.pointer (some ⟨p, 0, none⟩), .int .i64 b] w fun e w' => e = .returned (.bool false) ∧ ∃ k, w' = w.drewN k := by
  have HC := Lib.hid (fun k => isBlock_no (h.drewN k) b hb)
  clear h hb
  go_enter Tryd.func12, Tryd.ntmps12
  go_wp2
  go_quiet ((go_at_call 32; exact Calls.quiet_of_same ((HC.out _).mono (fun _ _ h => ⟨h.1, h.2.symm⟩))))
  go_wp2
  go_ret
  exact ⟨rfl, _, rfl⟩
set_option maxRecDepth 100000 in
theorem has_yes (h : Mp w p q K C n f) (b : Nat) (hb : b < n) : Calls Tryd.prog 12 #[.pointer (some ⟨p, 0, none⟩), .int .i64 (b : Int)] w fun e w' => e = .returned (.bool (f b)) ∧ ∃ k, w' = w.drewN k := by
  have HC := Lib.hid (fun k => isBlock_yes (h.drewN k) b hb)
  have hc1 := h.c1
  have hk := h.kk
  have hmx := h.max
  have HB := Lib.hid (fun w => bitOf_any b (by omega) w)
  have hrc := h.row.cell (i := b / 64) (by omega)
  have hx := wd_has f b
  have hl1 := wd_lt f (b / 64)
  have hl2 := pow_lt64 (Nat.mod_lt b (show 64 > 0 by omega))
  have ha := and_u64 _ _ hl1 hl2
  rw [hx] at ha
  have hp0 : 0 < 2 ^ (b % 64) := Nat.pow_pos (by omega)
  clear hx h
  generalize wd f (b / 64) = x at *
  generalize 2 ^ (b % 64) = y at *
  have hd1 : b / 64 < K := by omega
  have he : (b : Int) / 64 = ((b / 64 : Nat) : Int) := rfl
  have ht : (b : Int).tdiv 64 = ((b / 64 : Nat) : Int) := rfl
  have hwd : IntKind.wrap .i64 ((b / 64 : Nat) : Int) = ((b / 64 : Nat) : Int) := by rw [IntKind.wrap_i64]; omega
  generalize b / 64 = d at *
  have hd0 : (0 : Int) ≤ (d : Int) := by omega
  have hd2 : (d : Int) < (K : Int) := by omega
  clear hk hl1 hl2 hd1 hmx
  cases hf : f b with
  | true =>
    rw [hf] at ha
    simp only [if_true] at ha
    have hne : ((y : Int) == 0) = false := by simp; omega
    have hne2 : ((y : Int) != 0) = true := by simp; omega
    clear hf hp0
    go_enter Tryd.func12, Tryd.ntmps12
    go_wp2
    go_quiet ((first
      | (go_at_call 32; exact Calls.quiet_of_same ((HC.out _).mono (fun _ _ h => ⟨h.1, h.2.symm⟩)))
      | (go_at_call 33; exact Calls.quiet_of_same ((HB.out _).mono (fun _ _ h => ⟨h.1, h.2.symm⟩)))))
    go_wp2
    go_ret
    exact ⟨rfl, _, rfl⟩
  | false =>
    rw [hf] at ha
    simp only [Bool.false_eq_true, if_false] at ha
    clear hf hp0
    go_enter Tryd.func12, Tryd.ntmps12
    go_wp2
    go_quiet ((first
      | (go_at_call 32; exact Calls.quiet_of_same ((HC.out _).mono (fun _ _ h => ⟨h.1, h.2.symm⟩)))
      | (go_at_call 33; exact Calls.quiet_of_same ((HB.out _).mono (fun _ _ h => ⟨h.1, h.2.symm⟩)))))
    go_wp2
    go_ret
    exact ⟨rfl, _, rfl⟩
/-- whether it has a block -/
def hs (f : Nat → Bool) (b : Int) : Bool := decide (0 ≤ b) && f b.toNat
theorem hs_nat (f : Nat → Bool) (b : Nat) : hs f (b : Int) = f b := by simp [hs]
theorem has_any (h : Mp w p q K C n f) (b : Int) : Calls Tryd.prog 12 #[.pointer (some ⟨p, 0, none⟩), .int .i64 b] w fun e w' => e = .returned (.bool (hs f b)) ∧ ∃ k, w' = w.drewN k := by
  by_cases h0 : b < 0
  · have : hs f b = false := by unfold hs; rw [decide_eq_false (by omega)]; rfl
    rw [this]
    exact has_no h b (.inl h0)
  · obtain ⟨k, rfl⟩ := Int.eq_ofNat_of_zero_le (show 0 ≤ b by omega)
    rw [hs_nat]
    by_cases hk : k < n
    · exact has_yes h k hk
    · rw [h.far k (by omega)]
      exact has_no h _ (.inr (by omega))

theorem Mp.cnt64 (h : Mp w p q K C n f) : cnt f (64 * K) = cnt f n := cnt_far h.far _ h.kk.2
set_option maxRecDepth 100000 in
set_option maxHeartbeats 1000000 in
theorem count_any (h : Mp w p q K C n f) : Calls Tryd.prog 35 #[.pointer (some ⟨p, 0, none⟩)] w fun e w' => e = .returned (.int .i64 (cnt f n : Int)) ∧ w = w' := by
  have HC := Lib.hid h.cnt64
  have hc1 := h.c1
  have hk := h.kk
  have hmx := h.max
  have H := Lib.hid h
  clear h
  go_enter Tryd.func35, Tryd.ntmps35
  go_wp2
  go_loop [3, 11] (fun c i => ∃ k : Nat, k ≤ K ∧ i = .int .i64 (k : Int) ∧ c = .int .i64 (cnt f (64 * k) : Int)) (fun _ i => K - (intOf i).toNat)
  case atStart => exact ⟨0, Nat.zero_le _, rfl, rfl⟩
  case round =>
    obtain ⟨k, hkK, rfl, rfl⟩ := hrel
    have hle := cnt_le f (64 * k)
    by_cases hlt : k < K
    · have hrc := H.out.row.cell hlt
      have HS := Lib.hid (cnt_word f k)
      have hl := wd_lt f k
      have hpl := pop_le (wd f k) 64
      have HO := Lib.hid (fun w => ones_any (wd f k) hl w)
      clear hl
      generalize wd f k = x at *
      generalize pop x 64 = y at *
      generalize hcc : cnt f (64 * k) = z at *
      clear hcc
      have hi0 : (0 : Int) ≤ (k : Int) := by omega
      have hi1 : (k : Int) < (K : Int) := by omega
      go_wp2_with fail
      refine (HO.out _).mono ?_
      rintro e w' ⟨rfl, rfl⟩
      go_wp2
      go_round
      case rel => exact ⟨k + 1, by omega, by go_num, by rw [HS.out]; go_num⟩
      case measure => simp [intOf]; omega
    · obtain rfl : k = K := by omega
      go_wp2
      go_ret
      exact ⟨by rw [← HC.out]; rfl, rfl⟩
set_option maxRecDepth 100000 in
theorem free_any (h : Mp w p q K C n f) : Calls Tryd.prog 20 #[.pointer (some ⟨p, 0, none⟩)] w fun e w' => e = .returned (.int .i64 ((n - cnt f n : Nat) : Int)) ∧ ∃ k, w' = w.drewN k := by
  have HC := Lib.hid (fun k => count_any (h.drewN k))
  have hc0 := h.c0
  have hmx := h.max
  have hle := cnt_le f n
  clear h
  generalize cnt f n = c at *
  have hsub : IntKind.wrap .i64 ((n : Int) - (c : Int)) = ((n - c : Nat) : Int) := by rw [IntKind.wrap_i64]; omega
  go_enter Tryd.func20, Tryd.ntmps20
  go_wp2
  go_quiet ((go_at_call 35; exact Calls.quiet_of_same ((HC.out _).mono (fun _ _ h => ⟨h.1, h.2.symm⟩))))
  go_wp2
  go_ret
  exact ⟨rfl, _, rfl⟩
end
end Bm
end Go.Proofs.YtblibjjnbbleeaaDoor
