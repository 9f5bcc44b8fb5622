/- The small functions: how many words, a block's bit, whether there is a block, a word's least bit and its ones, a new map. -/
import Derived.Test.YtblibjjnbbleeaaDoorBmMem
import Derived.Laws.BitsAllLaws
import Derived.Shelf.Spec.TrailingZeros
namespace Go.Proofs.YtblibjjnbbleeaaDoor
open Go.RowKit Go.MapKept
namespace Bm
open Pack (Wds Nts)

section
variable {w : World}
theorem wordsOf_any (n : Nat) (hn : n ≤ 65534) (w : World) : Calls Tryd.prog 43 #[.int .i64 (n : Int)] w fun e w' => e = .returned (.int .i64 (((n + 63) / 64 : Nat) : Int)) ∧ w = w' := by
  go_enter Tryd.func43, Tryd.ntmps43
  go_wp2
  go_ret
  exact ⟨congrArg (fun x => Ending.returned (.int .i64 x)) (by omega), rfl⟩

theorem bitOf_any (b : Nat) (hb : b ≤ 9223372036854775807) (w : World) : Calls Tryd.prog 33 #[.int .i64 (b : Int)] w fun e w' => e = .returned (.int .u64 ((2 ^ (b % 64) : Nat) : Int)) ∧ w = w' := by
  go_enter Tryd.func33, Tryd.ntmps33
  go_wp2
  go_ret
  refine ⟨?_, rfl⟩
  have hp := pow_lt64 (Nat.mod_lt b (show 64 > 0 by omega))
  have e : IntKind.u64.wrap ((2 : Int) ^ (b % 64)) = ((2 ^ (b % 64) : Nat) : Int) := by
    rw [show ((2 : Int) ^ (b % 64)) = ((2 ^ (b % 64) : Nat) : Int) by simp]
    generalize 2 ^ (b % 64) = y at *
    rw [IntKind.wrap_u64]
    omega
  exact congrArg (fun x => Ending.returned (.int .u64 x)) e
variable {p q K C n : Nat} {f : Nat → Bool}
theorem isBlock_yes (h : Mp w p q K C n f) (b : Nat) (hb : b < n) : Calls Tryd.prog 32 #[.pointer (some ⟨p, 0, none⟩), .int .i64 (b : Int)] w fun e w' => e = .returned (.bool true) ∧ w = w' := by
  have hc := h.c0
  have h1 : (0 : Int) ≤ (b : Int) := by omega
  have h2 : (b : Int) < (n : Int) := by omega
  clear h
  go_enter Tryd.func32, Tryd.ntmps32
  go_wp2
  go_ret
  exact ⟨rfl, rfl⟩
theorem isBlock_no (h : Mp w p q K C n f) (b : Int) (hb : b < 0 ∨ (n : Int) ≤ b) : Calls Tryd.prog 32 #[.pointer (some ⟨p, 0, none⟩), .int .i64 b] w fun e w' => e = .returned (.bool false) ∧ w = w' := by
  have hc := h.c0
  clear h
  by_cases h0 : b < 0
  · clear hb
    have h1 : ¬ (0 : Int) ≤ b := by omega
    go_enter Tryd.func32, Tryd.ntmps32
    go_wp2
    go_ret
    exact ⟨rfl, rfl⟩
  · have h1 : (0 : Int) ≤ b := by omega
    have h2 : ¬ b < (n : Int) := by omega
    clear hb
    go_enter Tryd.func32, Tryd.ntmps32
    go_wp2
    go_ret
    exact ⟨rfl, rfl⟩
theorem blockOrNone_any (h : Mp w p q K C n f) (b : Nat) : Calls Tryd.prog 45 #[.pointer (some ⟨p, 0, none⟩), .int .i64 (b : Int)] w fun e w' => e = .returned (.int .i64 (if b < n then (b : Int) else -1)) ∧ w = w' := by
  by_cases hb : b < n
  · rw [if_pos hb]
    have HC := Lib.hid (isBlock_yes h b hb)
    clear h
    go_enter Tryd.func45, Tryd.ntmps45
    go_wp2_with fail
    refine HC.out.mono ?_
    rintro e w' ⟨rfl, rfl⟩
    go_wp2
    go_ret
    exact ⟨rfl, rfl⟩
  · rw [if_neg hb]
    have HC := Lib.hid (isBlock_no h (b : Int) (.inr (by omega)))
    clear h
    go_enter Tryd.func45, Tryd.ntmps45
    go_wp2_with fail
    refine HC.out.mono ?_
    rintro e w' ⟨rfl, rfl⟩
    go_wp2
    go_ret
    exact ⟨rfl, rfl⟩
theorem len_any (h : Mp w p q K C n f) : Calls Tryd.prog 11 #[.pointer (some ⟨p, 0, none⟩)] w fun e w' => e = .returned (.int .i64 (n : Int)) ∧ w = w' := by
  have hc := h.c0
  clear h
  go_enter Tryd.func11, Tryd.ntmps11
  go_wp2
  go_ret
  exact ⟨rfl, rfl⟩

/-! The library's two. -/
/-- the table is asked at place i, where it holds c -/
theorem tz_walk (w : World) (x i c : Nat) (hi : i < 64) (hc : c < 64) (hcell : w.cell? ⟨0, i, none⟩ = some (.int .u8 (c : Int))) (hne : ((x : Int) == 0) = false)
    (hkey : IntKind.u64.wrap (bits .and .u64 (x : Int) (IntKind.u64.wrap (-(x : Int))) * 285870213051353865) / 288230376151711744 = (i : Int)) :
    Calls Tryd.prog 46 #[.int .u64 (x : Int)] w fun e w' => e = .returned (.int .i64 (c : Int)) ∧ w = w' := by
  go_enter Tryd.func46, Tryd.ntmps46
  go_wp2_with (simp only [hkey])
  go_ret
  exact ⟨rfl, rfl⟩
theorem tz_any (x : Nat) (hx : x < 18446744073709551616) (hx0 : x ≠ 0) (w : World) (hT : Tab w) : Calls Tryd.prog 46 #[.int .u64 (x : Int)] w fun e w' => e = .returned (.int .i64 (Lib.ctz 64 x)) ∧ w = w' := by
  have hl := Lib.lowest_bit 64 x hx0 hx
  have hd := Lib.deBruijn64_at _ hl.2
  have hcell := hT _ hd.1
  rw [hd.2] at hcell
  exact tz_walk w x _ _ hd.1 hl.2 hcell (by simp; omega) (tz64_key x _ hx hx0 hl.1)

set_option maxRecDepth 100000 in
theorem ones_core (x a b c d e g : Nat) (w : World)
    (h1 : IntKind.u64.wrap (bits BinOp.and IntKind.u64 ((x : Int) / 2) 6148914691236517205 + bits BinOp.and IntKind.u64 (x : Int) 6148914691236517205) = (a : Int))
    (h2 : IntKind.u64.wrap (bits BinOp.and IntKind.u64 ((a : Int) / 4) 3689348814741910323 + bits BinOp.and IntKind.u64 (a : Int) 3689348814741910323) = (b : Int))
    (h3 : bits BinOp.and IntKind.u64 (IntKind.u64.wrap ((b : Int) / 16 + (b : Int))) 1085102592571150095 = (c : Int))
    (h4 : IntKind.u64.wrap ((c : Int) + (c : Int) / 256) = (d : Int)) (h5 : IntKind.u64.wrap ((d : Int) + (d : Int) / 65536) = (e : Int)) (h6 : IntKind.u64.wrap ((e : Int) + (e : Int) / 4294967296) = (g : Int))
    (hg : g < 9223372036854775808) :
    Calls Tryd.prog 47 #[.int .u64 (x : Int)] w fun r w' => r = .returned (.int .i64 ((g : Int) % 128)) ∧ w = w' := by
  have hw : IntKind.i64.wrap (g : Int) = (g : Int) := by rw [IntKind.wrap_i64]; omega
  have h7 := i64_and127 (g : Int)
  clear hg
  go_enter Tryd.func47, Tryd.ntmps47
  go_wp2
  go_ret
  exact ⟨rfl, rfl⟩
theorem and_u64 (y m : Nat) (hy : y < 18446744073709551616) (hm : m < 18446744073709551616) : bits BinOp.and IntKind.u64 (y : Int) (m : Int) = ((y &&& m : Nat) : Int) := u64_and_nat y m hy hm
theorem ones_any (x : Nat) (hx : x < 18446744073709551616) (w : World) : Calls Tryd.prog 47 #[.int .u64 (x : Int)] w fun r w' => r = .returned (.int .i64 (pop x 64 : Int)) ∧ w = w' := by
  obtain ⟨q1, q2, q3, e0, e1, e2, e3, e4, e5, e6, e7, he, hz, hs⟩ := ones x hx
  obtain ⟨y, z, u, hy, hz2, hu, hul, hum⟩ := fold8 e0 e1 e2 e3 e4 e5 e6 e7 he
  rw [← hz] at hy
  have hc3 : o3 (o2 (o1 x)) < 18446744073709551616 := by
    unfold o3
    exact Nat.and_lt_two_pow (n := 64) _ (by decide)
  refine (ones_core x (o1 x) (o2 (o1 x)) (o3 (o2 (o1 x))) y z u w ?_ ?_ ?_ ?_ ?_ ?_ hul).mono fun r w' ⟨hr, hw⟩ => ⟨hr.trans ?_, hw⟩
  · have a1 := and_u64 (x / 2) 6148914691236517205 (by omega) (by omega)
    have a2 := and_u64 x 6148914691236517205 hx (by omega)
    rw [show ((x : Int) / 2) = ((x / 2 : Nat) : Int) by omega]
    rw [show (6148914691236517205 : Int) = ((6148914691236517205 : Nat) : Int) from rfl, a1, a2, IntKind.wrap_u64]
    unfold o1 at *
    omega
  · generalize o1 x = a at *
    have a1 := and_u64 (a / 4) 3689348814741910323 (by omega) (by omega)
    have a2 := and_u64 a 3689348814741910323 q1 (by omega)
    rw [show ((a : Int) / 4) = ((a / 4 : Nat) : Int) by omega]
    rw [show (3689348814741910323 : Int) = ((3689348814741910323 : Nat) : Int) from rfl, a1, a2, IntKind.wrap_u64]
    unfold o2 at *
    omega
  · generalize o2 (o1 x) = b at *
    have a1 := and_u64 (b / 16 + b) 1085102592571150095 q3 (by omega)
    have e : IntKind.u64.wrap ((b : Int) / 16 + (b : Int)) = ((b / 16 + b : Nat) : Int) := by rw [IntKind.wrap_u64]; omega
    rw [e, show (1085102592571150095 : Int) = ((1085102592571150095 : Nat) : Int) from rfl, a1]
    rfl
  · generalize o3 (o2 (o1 x)) = c at *
    rw [IntKind.wrap_u64]
    omega
  · rw [IntKind.wrap_u64]
    omega
  · rw [IntKind.wrap_u64]
    omega
  · refine congrArg (fun x => Ending.returned (.int .i64 x)) ?_
    omega
end
end Bm
end Go.Proofs.YtblibjjnbbleeaaDoor
