/- The document's words of a map; whether a map is the document's. -/
import Derived.Test.YtblibjjnbbleeaaDoorBmRef
namespace Go.Proofs.YtblibjjnbbleeaaDoor
open Go.RowKit Go.MapKept
namespace Bm
open Pack (Wds Nts)

/-- those of f ahead of k -/
def lo (f : Nat → Bool) (k x : Nat) : Bool := f x && decide (x < k)
theorem lo_none (f : Nat → Bool) (j : Nat) : wd (lo f 0) j = 0 := by
  apply Nat.eq_of_testBit_eq
  intro i
  rw [wd_bit]
  simp [lo]
theorem lo_same {f : Nat → Bool} {k : Nat} (h : f k = false) : lo f (k + 1) = lo f k := by
  funext x
  unfold lo
  by_cases e : x = k
  · subst e; simp [h]
  · have : decide (x < k + 1) = decide (x < k) := by rw [decide_eq_decide]; omega
    rw [this]
theorem lo_more {f : Nat → Bool} {k : Nat} (h : f k = true) : lo f (k + 1) = upd (lo f k) k true := by
  funext x
  unfold upd lo
  by_cases e : x = k
  · subst e; simp [h]
  · rw [if_neg e]
    have : decide (x < k + 1) = decide (x < k) := by rw [decide_eq_decide]; omega
    rw [this]
theorem lo_lt (f : Nat → Bool) (k : Nat) : wd (lo f k) (k / 64) < 2 ^ (k % 64) := by
  apply Nat.lt_pow_two_of_testBit
  intro i hi
  rw [wd_bit]
  unfold lo
  have : ¬ 64 * (k / 64) + i < k := by omega
  simp [this]
theorem lo_add {f : Nat → Bool} {k : Nat} (h : f k = true) : wd (lo f k) (k / 64) + 2 ^ (k % 64) = wd (lo f (k + 1)) (k / 64) := by
  rw [lo_more h, ← wd_or]
  have := Nat.two_pow_add_eq_or_of_lt (lo_lt f k) 1
  rw [Nat.mul_one] at this
  rw [Nat.add_comm, this, Nat.or_comm]
theorem lo_other {f : Nat → Bool} {k j : Nat} (h : j ≠ k / 64) : wd (lo f (k + 1)) j = wd (lo f k) j := by
  apply wd_congr
  intro i hi
  unfold lo
  have : decide (64 * j + i < k + 1) = decide (64 * j + i < k) := by rw [decide_eq_decide]; omega
  rw [this]
theorem lo_all (f : Nat → Bool) (n : Nat) (h : ∀ b, n ≤ b → f b = false) : lo f n = f := by
  funext x
  unfold lo
  by_cases hx : x < n
  · simp [hx]
  · rw [h x (by omega)]; rfl

section
variable {w : World} {q n : Nat} {f : Nat → Bool}
set_option maxRecDepth 100000 in
set_option maxHeartbeats 2000000 in
theorem refWords_any (A : Option Addr) (c K : Nat) (h : Bls w q A n f) (hn : n ≤ 65534) (hfar : ∀ b, n ≤ b → f b = false) (hK : K = (n + 63) / 64) : Calls Tryd.prog 39 #[.slice A n c] w fun e w' =>
    e = .returned (.slice (some ⟨w.heap.size, 0, none⟩) K K) ∧ Row w' w.heap.size 68 K (fun k => .int .u64 (wd f k : Int)) ∧ Below w.heap.size w w' := by
  have H := Lib.hid h
  have HF := Lib.hid hfar
  have hmk := run_make_row' (P := Tryd.prog) 65 68 _ 8 Tryd.underlying65 Pack.u64_info rfl .i64 .i64 K (by omega) (by omega) w
  have HR := Lib.hid ((row_of_is (World.rowIs_made w (.int .u64 0) K 68)).congr (g := fun k => .int .u64 (wd (lo f 0) k : Int)) (fun i _ => by rw [lo_none]; rfl))
  have HB := Lib.hid ((Below.refl w.heap.size w).alloc (Nat.le_refl _) (.cells (madeCells #[.int .u64 0] K) 68))
  generalize w.alloc (.cells (madeCells #[.int .u64 0] K) 68) = w1 at *
  have hq : ((n : Int) + 63) / 64 = (K : Int) := by omega
  have hKn : n ≤ 64 * K := by omega
  clear h hfar hK
  rw [← hq] at hmk
  clear hq
  go_enter Tryd.func39, Tryd.ntmps39
  go_wp2
  go_loopw [13] (fun i wr => ∃ k : Nat, k ≤ n ∧ i = .int .i64 (k : Int) ∧ Row wr w.heap.size 68 K (fun j => .int .u64 (wd (lo f k) j : Int)) ∧ Below w.heap.size w wr) (fun i _ => n - (intOf i).toNat)
  case atStart => exact ⟨0, Nat.zero_le _, rfl, HR.out, HB.out⟩
  case round =>
    obtain ⟨k, hk, rfl, hrow, hbel⟩ := hrel
    by_cases hlt : k < n
    · obtain ⟨b, o, rfl, hb, _, hcell0⟩ := H.out.at' k hlt
      have hcell := (hbel.cell (p := ⟨b, o + k, none⟩) hb).trans hcell0
      clear hcell0
      have hi0 : (0 : Int) ≤ (k : Int) := by omega
      have hi1 : (k : Int) < (n : Int) := by omega
      cases hfk : f k with
      | false =>
        rw [hfk] at hcell
        have HW := Lib.hid hrow
        have HBW := Lib.hid hbel
        have HE := Lib.hid (lo_same hfk)
        clear hrow hbel hfk hmk
        go_wp2
        refine ⟨⟨k + 1, by omega, by go_num, by rw [HE.out]; exact HW.out, HBW.out⟩, by simp [intOf]; omega⟩
      | true =>
        rw [hfk] at hcell
        have hd1 : k / 64 < K := by omega
        have hc0 := hrow.cell hd1
        have hf0 := hrow.frozen (k / 64)
        have hadd := lo_add hfk
        have hl := wd_lt (lo f (k + 1)) (k / 64)
        have HN := Lib.hid ((hrow.set (k / 64) (.int .u64 (wd (lo f (k + 1)) (k / 64) : Int))).congr (g := fun j => .int .u64 (wd (lo f (k + 1)) j : Int)) (fun j _ => by
          by_cases e : j = k / 64
          · subst e; simp
          · simp [e, lo_other e]))
        have HBN := Lib.hid (hbel.setCell (p := ⟨w.heap.size, k / 64, none⟩) (Nat.le_refl _) (.int .u64 (wd (lo f (k + 1)) (k / 64) : Int)))
        clear hrow hbel hfk hmk
        have hsh : IntKind.u64.wrap ((2 : Int) ^ (k % 64)) = ((2 ^ (k % 64) : Nat) : Int) := by
          rw [show ((2 : Int) ^ (k % 64)) = ((2 ^ (k % 64) : Nat) : Int) by simp]
          have := pow_lt64 (Nat.mod_lt k (show 64 > 0 by omega))
          generalize 2 ^ (k % 64) = y at *
          rw [IntKind.wrap_u64]
          omega
        generalize wd (lo f (k + 1)) (k / 64) = z at *
        generalize wd (lo f k) (k / 64) = x at *
        generalize 2 ^ (k % 64) = y at *
        have hsum : IntKind.u64.wrap ((x : Int) + (y : Int)) = (z : Int) := by rw [IntKind.wrap_u64]; omega
        have hwd : IntKind.wrap .i64 ((k : Int) / 64) = ((k / 64 : Nat) : Int) := by rw [IntKind.wrap_i64]; omega
        have hwr : IntKind.wrap .i64 ((k : Int) % 64) = ((k % 64 : Nat) : Int) := by rw [IntKind.wrap_i64]; omega
        have he : (k : Int) / 64 = ((k / 64 : Nat) : Int) := rfl
        have ht : (k : Int).tdiv 64 = ((k / 64 : Nat) : Int) := rfl
        have hm : (k : Int) % 64 = ((k % 64 : Nat) : Int) := rfl
        have hmt : (k : Int).tmod 64 = ((k % 64 : Nat) : Int) := rfl
        have hr64 : k % 64 < 64 := by omega
        generalize k % 64 = r at *
        generalize k / 64 = d at *
        have hwd2 : IntKind.wrap .i64 (d : Int) = (d : Int) := by rw [IntKind.wrap_i64]; omega
        have hwr2 : IntKind.wrap .i64 (r : Int) = (r : Int) := by rw [IntKind.wrap_i64]; omega
        have hd0 : (0 : Int) ≤ (d : Int) := by omega
        have hd2 : (d : Int) < (K : Int) := by omega
        have hr0 : (0 : Int) ≤ (r : Int) := by omega
        have hr1 : (r : Int) < 64 := by omega
        clear hadd hl hd1 hr64
        go_wp2
        go_region
        clear hwd hwr he ht hm hmt hwd2 hwr2 hsum hsh
        go_wp2
        refine ⟨⟨k + 1, by omega, by go_num, HN.out.drew, HBN.out.drew⟩, by simp [intOf]; omega⟩
    · obtain rfl : k = n := by omega
      rw [lo_all f k HF.out] at hrow
      have HW := Lib.hid hrow
      have HBW := Lib.hid hbel
      clear hrow hbel hmk
      go_wp2
      go_ret
      exact ⟨rfl, HW.out, HBW.out⟩
end
end Bm
end Go.Proofs.YtblibjjnbbleeaaDoor
