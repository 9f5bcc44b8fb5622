/- The program's own steps: a byte more. -/
import Derived.Test.YtobffegkdoefnaaDoorRows
import Derived.Test.YtobffegkdoefnaaDoorCrcRev
import Derived.WalkKit
import Derived.ProofKit
import Derived.Maps.AppendAt
import Derived.MapKept
import Derived.Lib.Hide
import Derived.Laws.BitsAllLaws
namespace Go.Proofs.YtobffegkdoefnaaDoor
open Go.RowKit Go.MapKept
namespace Crc

def P32 : Nat := 3988292384

theorem mask32 (p e : Nat) (hp : p < 4294967296) (he : e = 0 ∨ e = 1) : bits .and .u32 (p : Int) (IntKind.wrap .u32 (-(e : Int))) = (((if e = 1 then p else 0 : Nat)) : Int) := by
  rcases he with rfl | rfl
  · have h : IntKind.wrap .u32 (-((0 : Nat) : Int)) = ((0 : Nat) : Int) := by rw [IntKind.wrap_u32']; rfl
    rw [h, u32_and_nat p 0 hp (by omega)]
    simp
  · have h : IntKind.wrap .u32 (-((1 : Nat) : Int)) = ((4294967295 : Nat) : Int) := by rw [IntKind.wrap_u32']; rfl
    have h2 : p &&& 4294967295 = p % 4294967296 := Nat.and_two_pow_sub_one_eq_mod p 32
    rw [h, u32_and_nat p _ hp (by omega), h2, Nat.mod_eq_of_lt hp]
    simp

theorem mask16 (p e : Nat) (hp : p < 65536) (he : e = 0 ∨ e = 1) : bits .and .u16 (p : Int) (IntKind.wrap .u16 (-(e : Int))) = (((if e = 1 then p else 0 : Nat)) : Int) := by
  rcases he with rfl | rfl
  · have h : IntKind.wrap .u16 (-((0 : Nat) : Int)) = ((0 : Nat) : Int) := by rw [IntKind.wrap_u16]; rfl
    rw [h, u16_and_nat p 0 hp (by omega)]
    simp
  · have h : IntKind.wrap .u16 (-((1 : Nat) : Int)) = ((65535 : Nat) : Int) := by rw [IntKind.wrap_u16]; rfl
    have h2 : p &&& 65535 = p % 65536 := Nat.and_two_pow_sub_one_eq_mod p 16
    rw [h, u16_and_nat p _ hp (by omega), h2, Nat.mod_eq_of_lt hp]
    simp

theorem step32 (x : Nat) (hx : x < 4294967296) : bits .xor .u32 ((x : Int) / 2) (bits .and .u32 3988292384 (IntKind.wrap .u32 (-(bits .and .u32 (x : Int) 1)))) = ((A P32 x : Nat) : Int) := by
  have h1 : bits .and .u32 (x : Int) 1 = ((x % 2 : Nat) : Int) := by
    have := u32_and_nat x 1 hx (by omega)
    rw [nat_mask1] at this
    exact this
  rw [h1]
  have h2 := mask32 3988292384 (x % 2) (by omega) (by omega)
  rw [show ((3988292384 : Nat) : Int) = (3988292384 : Int) from rfl] at h2
  rw [h2, show (x : Int) / 2 = ((x / 2 : Nat) : Int) from rfl, u32_xor_nat _ _ (by omega) (by split <;> omega)]
  rfl

theorem step16 (q : Nat) (hq : q < 65536) : bits .xor .u16 (IntKind.wrap .u16 (((rev 16 q : Nat) : Int) * 2)) (bits .and .u16 4129 (IntKind.wrap .u16 (-(((rev 16 q : Nat) : Int) / 32768)))) = ((rev 16 (A P16 q) : Nat) : Int) := by
  have h1 : ((rev 16 q : Nat) : Int) / 32768 = ((q % 2 : Nat) : Int) := by rw [← rev_top]; rfl
  have h0 : IntKind.wrap .u16 (((rev 16 q : Nat) : Int) * 2) = ((rev 16 q * 2 % 65536 : Nat) : Int) := by rw [IntKind.wrap_u16]; omega
  have h2 := mask16 4129 (q % 2) (by omega) (by omega)
  rw [show ((4129 : Nat) : Int) = (4129 : Int) from rfl] at h2
  rw [h1, h2, h0, u16_xor_nat _ _ (by omega) (by split <;> omega), step_rev hq]

theorem it32_lt {x : Nat} (hx : x < 4294967296) (k : Nat) : it P32 k x < 4294967296 := it_lt (w := 32) (by decide) k x hx
theorem it16_lt {x : Nat} (hx : x < 65536) (k : Nat) : it P16 k x < 65536 := it_lt (w := 16) (by decide) k x hx

set_option maxHeartbeats 800000 in
theorem next32_any (w : World) (r b : Nat) (hr : r < 4294967296) (hb : b < 256) :
    Calls Tryd.prog 45 #[.int .u32 (r : Int), .int .u8 (b : Int)] w fun e w' => e = .returned (.int .u32 (nx P32 r b : Nat)) ∧ w = w' := by
  have hx : bits .xor .u32 (r : Int) (b : Int) = ((r ^^^ b : Nat) : Int) := u32_xor_nat r b hr (by omega)
  have hlt : r ^^^ b < 4294967296 := Nat.xor_lt_two_pow (n := 32) hr (by omega)
  go_enter Tryd.func45, Tryd.ntmps45
  go_wp2
  go_loopw [0, 9] (fun s i wr => ∃ m : Nat, m ≤ 8 ∧ i = .int .i64 (m : Int) ∧ s = .int .u32 ((it P32 m (r ^^^ b) : Nat) : Int) ∧ wr = w) (fun _ i _ => 8 - (intOf i).toNat)
  case atStart => exact ⟨0, by omega, rfl, rfl, rfl⟩
  case round =>
    obtain ⟨m, hm, rfl, rfl, rfl⟩ := hrel
    have hs := step32 _ (it32_lt hlt m)
    rw [← it_last, IntKind.wrap_u32'] at hs
    by_cases h8 : m < 8
    · go_wp2
      exact ⟨⟨m + 1, by omega, by go_num, rfl, trivial⟩, by simp [intOf]; omega⟩
    · obtain rfl : m = 8 := by omega
      clear hs
      go_wp2
      go_ret
      exact ⟨rfl, rfl⟩

set_option maxHeartbeats 800000 in
theorem next16_any (w : World) (q b : Nat) (hq : q < 65536) (hb : b < 256) :
    Calls Tryd.prog 46 #[.int .u16 ((rev 16 q : Nat) : Int), .int .u8 (b : Int)] w fun e w' => e = .returned (.int .u16 (rev 16 (nx P16 q (rev 8 b)) : Nat)) ∧ w = w' := by
  have hv : rev 8 b < 256 := rev_lt 8 b
  have hlt : q ^^^ rev 8 b < 65536 := Nat.xor_lt_two_pow (n := 16) hq (by omega)
  have hx : bits .xor .u16 ((rev 16 q : Nat) : Int) ((b : Int) * 256) = ((rev 16 (q ^^^ rev 8 b) : Nat) : Int) := by
    have h0 : (b : Int) * 256 = ((b * 256 : Nat) : Int) := by omega
    rw [h0, u16_xor_nat _ _ (rev_lt 16 q) (by omega), rev_xor, rev_byte hb]
  go_enter Tryd.func46, Tryd.ntmps46
  go_wp2
  go_loopw [0, 10] (fun s i wr => ∃ m : Nat, m ≤ 8 ∧ i = .int .i64 (m : Int) ∧ s = .int .u16 ((rev 16 (it P16 m (q ^^^ rev 8 b)) : Nat) : Int) ∧ wr = w) (fun _ i _ => 8 - (intOf i).toNat)
  case atStart => exact ⟨0, by omega, rfl, rfl, rfl⟩
  case round =>
    obtain ⟨m, hm, rfl, rfl, rfl⟩ := hrel
    have hs := step16 _ (it16_lt hlt m)
    rw [← it_last] at hs
    by_cases h8 : m < 8
    · go_wp2
      exact ⟨⟨m + 1, by omega, by go_num, rfl, trivial⟩, by simp [intOf]; omega⟩
    · obtain rfl : m = 8 := by omega
      clear hs
      go_wp2
      go_ret
      exact ⟨rfl, rfl⟩
end Crc
end Go.Proofs.YtobffegkdoefnaaDoor
