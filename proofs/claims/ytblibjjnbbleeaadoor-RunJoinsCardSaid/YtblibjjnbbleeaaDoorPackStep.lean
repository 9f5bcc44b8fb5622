/- The program's own small steps: a width that fits, the lowest bits, what widths come to; the document's power. -/
import Derived.Test.YtblibjjnbbleeaaDoorRows
import Derived.Test.YtblibjjnbbleeaaDoorPackMath
import Derived.WalkKit
import Derived.ProofKit
import Derived.Maps.AppendAt
import Derived.MapKept
import Derived.Lib.Hide
import Derived.Laws.BitsAllLaws
namespace Go.Proofs.YtblibjjnbbleeaaDoor
open Go.RowKit Go.MapKept
namespace Pack

theorem fits_any (w : World) (n : Int) (t : Nat) (h1 : -9223372036854775808 ≤ n) (h2 : n ≤ 9223372036854775807) (ht : t ≤ 64) :
    Calls Tryd.prog 51 #[.int .i64 n, .int .i64 (t : Int)] w fun e w' => e = .returned (.bool (decide (1 ≤ n ∧ n ≤ 64 - (t : Int)))) ∧ w = w' := by
  go_enter Tryd.func51, Tryd.ntmps51
  go_wp2
  · rename_i h
    go_ret
    exact ⟨by simp [h], rfl⟩
  · rename_i h
    go_ret
    refine ⟨?_, rfl⟩
    have : ¬ 1 ≤ n := by omega
    simp [this]

theorem mask_low (x n : Nat) (hx : x < 18446744073709551616) (hn : n ≤ 64) : bits .andNot .u64 (x : Int) (IntKind.wrap .u64 (18446744073709551615 * 2 ^ n)) = ((x % 2 ^ n : Nat) : Int) := by
  have hp : 0 < 2 ^ n := Nat.two_pow_pos _
  have hq : 2 ^ n ≤ 18446744073709551616 := Nat.pow_le_pow_right (n := 2) (by omega) hn
  have h1 : IntKind.wrap .u64 (18446744073709551615 * 2 ^ n) = ((18446744073709551616 - 2 ^ n : Nat) : Int) := by
    have e : (18446744073709551615 * 2 ^ n : Int) = ((18446744073709551615 * 2 ^ n : Nat) : Int) := by simp
    rw [e, IntKind.wrap_u64]
    generalize 2 ^ n = q at *
    omega
  rw [h1, u64_andNot_nat _ _ hx (by omega)]
  have e : 18446744073709551615 - (18446744073709551616 - 2 ^ n) = 2 ^ n - 1 := by omega
  rw [e, Nat.and_two_pow_sub_one_eq_mod]

theorem lowest_any (w : World) (x n : Nat) (hx : x < 18446744073709551616) (hn : n ≤ 64) :
    Calls Tryd.prog 53 #[.int .u64 (x : Int), .int .i64 (n : Int)] w fun e w' => e = .returned (.int .u64 ((x % 2 ^ n : Nat) : Int)) ∧ w = w' := by
  have HE := Lib.hid (mask_low x n hx hn)
  go_enter Tryd.func53, Tryd.ntmps53
  go_wp2
  go_ret
  exact ⟨by rw [HE.out]; rfl, rfl⟩

/-- these widths lie at A -/
structure Nts (w : World) (A : Option Addr) (l : List Int) : Prop where
  i64 : ∀ n ∈ l, -9223372036854775808 ≤ n ∧ n ≤ 9223372036854775807
  len : l.length ≤ 9223372036854775807
  at' : ∀ j (h : j < l.length), ∃ b o, A = some ⟨b, o, none⟩ ∧ b < w.heap.size ∧ w.cell? ⟨b, o + j, none⟩ = some (.int .i64 l[j])

theorem Nts.keep {w w' : World} {A : Option Addr} {l : List Int} (h : Nts w A l) (hb : Below w.heap.size w w') : Nts w' A l :=
  ⟨h.i64, h.len, fun j hj => by
    obtain ⟨b, o, e, hlt, hc⟩ := h.at' j hj
    exact ⟨b, o, e, Nat.lt_of_lt_of_le hlt hb.size, (hb.cell (p := ⟨b, o + j, none⟩) hlt).trans hc⟩⟩

section
variable {w : World}
set_option maxHeartbeats 1600000 in
set_option maxRecDepth 100000 in
theorem total_any (A : Option Addr) (c : Nat) (l : List Int) (h : Nts w A l) :
    Calls Tryd.prog 52 #[.slice A l.length c] w fun e w' => e = .returned (.tuple #[.int .i64 ((tot 0 l).getD 0 : Nat), .bool (tot 0 l).isSome]) ∧ w = w' := by
  have hn := h.len
  have H := Lib.hid h
  clear h
  have HF := Lib.hid (fun n t h1 h2 ht => fits_any w n t h1 h2 ht)
  go_enter Tryd.func52, Tryd.ntmps52
  go_wp2
  go_loopw [4, 9] (fun s i wr => ∃ (m t : Nat), m ≤ l.length ∧ i = .int .i64 (m : Int) ∧ s = .int .i64 (t : Int) ∧ tot 0 (l.take m) = some t ∧ w = wr) (fun _ i _ => l.length - (intOf i).toNat)
  case atStart => exact ⟨0, 0, Nat.zero_le _, rfl, rfl, rfl, rfl⟩
  case round =>
    obtain ⟨m, t, hm, rfl, rfl, ht, rfl⟩ := hrel
    have htl := (tot_le (by omega) ht).2
    by_cases hlt : m < l.length
    · obtain ⟨b, o, rfl, hb, hcell⟩ := H.out.at' m hlt
      have hx := H.out.i64 _ (List.getElem_mem hlt)
      have HS := Lib.hid (tot_step hlt ht)
      generalize l[m] = n at *
      clear ht
      have HN := Lib.hid (HF.out n t hx.1 hx.2 htl)
      go_wp2_with fail
      refine HN.out.mono ?_
      rintro e w' ⟨rfl, rfl⟩
      by_cases hc : 1 ≤ n ∧ n ≤ 64 - (t : Int)
      · have hs := HS.out
        rw [if_pos hc] at hs
        have HS2 := Lib.hid hs
        clear hs
        rw [decide_eq_true hc]
        obtain ⟨q, rfl⟩ := Int.eq_ofNat_of_zero_le (show 0 ≤ n by omega)
        go_wp2
        refine ⟨⟨m + 1, t + q, by omega, by go_num, by go_num, ?_, trivial⟩, by simp [intOf]; omega⟩
        simpa using HS2.out
      · have hs := HS.out
        rw [if_neg hc] at hs
        have HS2 := Lib.hid (tot_none hs)
        clear hs
        rw [decide_eq_false hc]
        go_wp2
        go_ret2
        exact ⟨by rw [HS2.out]; rfl, rfl⟩
    · obtain rfl : m = l.length := by omega
      rw [List.take_length] at ht
      have HT := Lib.hid ht
      clear ht
      go_wp2
      go_ret2
      exact ⟨by rw [HT.out]; rfl, rfl⟩
end
end Pack
end Go.Proofs.YtblibjjnbbleeaaDoor
