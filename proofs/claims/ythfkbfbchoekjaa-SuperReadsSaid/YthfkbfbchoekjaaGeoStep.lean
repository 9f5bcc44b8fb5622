/- The program's small steps: a number within bounds, a block's bytes that may be, parts and lines. -/
import Derived.Test.YthfkbfbchoekjaaRows
import Derived.Test.YthfkbfbchoekjaaGeoMath
import Derived.WalkKit
import Derived.ProofKit
import Derived.IntWalk
import Derived.MapKept
import Derived.Lib.Hide
import Derived.Deep.RegionHeld3
import Derived.BigCall
namespace Go.Proofs.Ythfkbfbchoekjaa
open Go.RowKit Go.MapKept
namespace Geo

/-- a number that an int holds -/
def I64 (n : Int) : Prop := -9223372036854775808 ≤ n ∧ n ≤ 9223372036854775807

theorem within_any (w : World) (n a b : Int) :
    Calls Try.prog 46 #[.int .i64 n, .int .i64 a, .int .i64 b] w fun e w' => e = .returned (.bool (decide (a ≤ n ∧ n ≤ b))) ∧ w = w' := by
  go_enter Try.func46, Try.ntmps46
  go_wp2
  · rename_i h
    go_ret
    exact ⟨by simp [h], rfl⟩
  · rename_i h
    go_ret
    refine ⟨?_, rfl⟩
    have : ¬ a ≤ n := by omega
    simp [this]

theorem size_bits (s : Int) (h1 : 64 ≤ s) (h2 : s ≤ 4096) : (bits .and .i64 s (s - 1) = 0) ↔ Sz s := by
  obtain ⟨k, rfl⟩ := Int.eq_ofNat_of_zero_le (show 0 ≤ s by omega)
  have hk : k < 4097 := by omega
  have e1 : (BitVec.ofInt 64 (k : Int)).toNat = k := by rw [BitVec.ofInt_natCast, BitVec.toNat_ofNat]; exact Nat.mod_eq_of_lt (by omega)
  have e2 : (BitVec.ofInt 64 ((k : Int) - 1)).toNat = k - 1 := by
    have : ((k : Int) - 1) = ((k - 1 : Nat) : Int) := by omega
    rw [this, BitVec.ofInt_natCast, BitVec.toNat_ofNat]; exact Nat.mod_eq_of_lt (by omega)
  have e : bits .and .i64 (k : Int) ((k : Int) - 1) = ((Nat.land k (k - 1) : Nat) : Int) := by
    show IntKind.i64.wrap ((BitVec.ofInt 64 (k : Int) &&& BitVec.ofInt 64 ((k : Int) - 1)).toNat : Int) = _
    rw [BitVec.toNat_and, e1, e2]
    have hl : k &&& (k - 1) ≤ k := Nat.and_le_left
    have hl' : Nat.land k (k - 1) = k &&& (k - 1) := rfl
    rw [hl', IntKind.wrap_i64]
    omega
  rw [e]
  have ha := and_size' ⟨k / 64, by omega⟩ ⟨k % 64, by omega⟩
  have hq : 64 * (k / 64) + k % 64 = k := by omega
  simp only [hq] at ha
  unfold Sz
  constructor
  · intro h
    have h' : Nat.land k (k - 1) = 0 := by omega
    rcases ha.1 h' with h | h
    · omega
    · omega
  · intro h
    have := ha.2 (.inr (by omega))
    omega

theorem size_any (w : World) (s : Int) :
    Calls Try.prog 47 #[.int .i64 s] w fun e w' => e = .returned (.bool (decide (Sz s))) ∧ w = w' := by
  have HW := Lib.hid (within_any w s 64 4096)
  by_cases h : 64 ≤ s ∧ s ≤ 4096
  · obtain ⟨h1, h2⟩ := h
    have HS := Lib.hid (size_bits s h1 h2)
    go_enter Try.func47, Try.ntmps47
    go_wp2_with fail
    refine HW.out.mono ?_
    rintro e w' ⟨rfl, rfl⟩
    rw [decide_eq_true (show 64 ≤ s ∧ s ≤ 4096 from ⟨h1, h2⟩)]
    go_wp2
    go_ret
    refine ⟨?_, rfl⟩
    have := HS.out
    by_cases hz : Sz s
    · rw [decide_eq_true hz, this.2 hz]; rfl
    · rw [decide_eq_false hz]
      have h0 : ¬ bits .and .i64 s (s - 1) = 0 := fun h => hz (this.1 h)
      simp [h0]
  · have hn : ¬ Sz s := fun h' => h ⟨h'.bounds.1, h'.bounds.2.1⟩
    go_enter Try.func47, Try.ntmps47
    go_wp2_with fail
    refine HW.out.mono ?_
    rintro e w' ⟨rfl, rfl⟩
    rw [decide_eq_false h]
    go_wp2
    go_ret
    exact ⟨by rw [decide_eq_false hn]; rfl, rfl⟩

/-- parts of what there is -/
theorem parts_any (w : World) (c e : Int) (h0 : 0 ≤ c) (h1 : c ≤ 9223372036854775807) (he2 : 2 ≤ e) :
    Calls Try.prog 66 #[.int .i64 c, .int .i64 e] w fun r w' => r = .returned (.int .i64 (prt c e)) ∧ w = w' := by
  have hq := prt_bounds h0 (show 0 < e by omega)
  have hq2 : c / e ≤ 4611686018427387903 := by
    have h2 : c / e * e ≤ c := Int.ediv_mul_le c (by omega)
    have h3 : c / e * 2 ≤ c / e * e := Int.mul_le_mul_of_nonneg_left he2 hq.1
    omega
  by_cases hz : c % e = 0
  · go_enter Try.func66, Try.ntmps66
    go_wp2
    go_ret
    exact ⟨by unfold prt; rw [if_pos hz]; simp, rfl⟩
  · go_enter Try.func66, Try.ntmps66
    go_wp2
    go_ret
    exact ⟨by unfold prt; rw [if_neg hz]; rfl, rfl⟩

/-- parts of whatever number -/
theorem parts_some (w : World) (c e : Int) (h : I64 c) (he : e = 8 ∨ e = 64) :
    Calls Try.prog 66 #[.int .i64 c, .int .i64 e] w fun r w' => (∃ v, r = .returned (.int .i64 v) ∧ I64 v) ∧ w = w' := by
  obtain ⟨h1, h2⟩ := h
  by_cases h0 : 0 ≤ c
  · refine (parts_any w c e h0 h2 (by omega)).mono ?_
    rintro r w' ⟨rfl, rfl⟩
    refine ⟨⟨_, rfl, ?_⟩, rfl⟩
    unfold I64 prt
    rcases he with rfl | rfl <;> (split <;> omega)
  · have hd : -9223372036854775808 ≤ c.tdiv e ∧ c.tdiv e ≤ 0 := by
      obtain ⟨k, rfl⟩ : ∃ k : Nat, c = -(k : Int) := ⟨(-c).toNat, by omega⟩
      rw [Int.neg_tdiv]
      rcases he with rfl | rfl
      · have : ((k : Int)).tdiv 8 = (k : Int) / 8 := Int.tdiv_eq_ediv_of_nonneg (by omega)
        omega
      · have : ((k : Int)).tdiv 64 = (k : Int) / 64 := Int.tdiv_eq_ediv_of_nonneg (by omega)
        omega
    have he1 : 1 ≤ e := by omega
    have he2 : ¬ e = 0 := by omega
    clear he
    go_enter Try.func66, Try.ntmps66
    go_wp2
    · go_ret
      exact ⟨⟨_, rfl, by unfold I64; omega⟩, rfl⟩
    · go_ret
      exact ⟨⟨_, rfl, by unfold I64; omega⟩, rfl⟩

theorem filled_any (w : World) (c : Int) (h0 : 0 ≤ c) (h1 : c ≤ 1000000) :
    Calls Try.prog 65 #[.int .i64 c] w fun r w' => r = .returned (.int .i64 (lines c)) ∧ w = w' := by
  have HP := Lib.hid (parts_any w c 8 h0 (by omega) (by omega))
  have HE := Lib.hid (prt8 c)
  have hb : 0 ≤ prt c 8 ∧ prt c 8 ≤ 1000000 := by unfold prt; split <;> omega
  go_enter Try.func65, Try.ntmps65
  go_wp2_with fail
  refine HP.out.mono ?_
  rintro e w' ⟨rfl, rfl⟩
  go_wp2
  go_ret
  exact ⟨by rw [← HE.out]; rfl, rfl⟩

theorem i64_wrap (x : Int) : I64 (IntKind.i64.wrap x) := by
  unfold I64
  rw [IntKind.wrap_i64]
  omega

theorem filled_some (w : World) (c : Int) (h : I64 c) :
    Calls Try.prog 65 #[.int .i64 c] w fun r w' => (∃ v, r = .returned (.int .i64 v) ∧ I64 v) ∧ w = w' := by
  have HP := Lib.hid (parts_some w c 8 h (.inl rfl))
  go_enter Try.func65, Try.ntmps65
  go_wp2_with fail
  refine HP.out.mono ?_
  rintro e w' ⟨⟨v, rfl, hv⟩, rfl⟩
  go_wp2
  go_ret
  exact ⟨⟨_, rfl, by unfold I64 wrap64; omega⟩, rfl⟩
end Geo
end Go.Proofs.Ythfkbfbchoekjaa
