/- The chapter's example; a small geometry; GeometryNeeds, walked. -/
import Derived.Test.YthfkbfbchoekjaaGeoBits
namespace Go.Proofs.Ythfkbfbchoekjaa
open Go.RowKit Go.MapKept
namespace Geo

theorem ex_may : may 10 3 64 = true := by decide
theorem ex_inode : plc 10 3 64 2 3 16 8 = 32 := by decide
theorem ex_slot : plc 10 3 64 0 10 (16 + 3 * 8) 1 = 40 := by decide
theorem ex_first : iff' 10 3 64 (bmAt 10 3) (-1) = 56 := by decide
theorem ex_bits : iff' 10 3 64 ((10 + 63) / 64) 0 = 1 := by decide
theorem ex_block : plc 10 3 64 0 10 (bkAt 10 3) (64 / 8) = 64 := by decide
theorem ex_words : iff' 10 3 64 (fin 10 3 64) 0 = 144 := by decide

set_option maxHeartbeats 1000000 in
theorem lives_any (w : World) : Calls Try.prog 20 #[] w fun r w' => r = .returned (.bool true) ∧ Below w.heap.size w w' := by
  have HB := Lib.hid ((Below.refl w.heap.size w).alloc (Nat.le_refl _) (.cells #[.int .i64 10, .int .i64 3, .int .i64 64] 24))
  have HX := Lib.hid (boxed w 10 3 64 24)
  go_enter Try.func20, Try.ntmps20
  go_wp2_with fail
  refine (bitmap_any _ 10 3 64).mono ?_
  rintro e w1 ⟨rfl, hb⟩
  rw [ex_first, ex_bits]
  have HB1 := Lib.hid (HB.out.trans (hb.mono HB.out.size))
  have HX1 := Lib.hid (HX.out.keep hb)
  clear hb
  have hc0 := HX1.out.c0
  have hc1 := HX1.out.c1
  have hc2 := HX1.out.c2
  go_wp2_with fail
  refine (inode_any _ 10 3 64 2).mono ?_
  rintro e w2 ⟨rfl, hb⟩
  rw [ex_inode]
  have HB2 := Lib.hid (HB1.out.trans (hb.mono HB1.out.size))
  have HX2 := Lib.hid (HX1.out.keep hb)
  clear hb hc0 hc1 hc2
  have hc0 := HX2.out.c0
  have hc1 := HX2.out.c1
  have hc2 := HX2.out.c2
  go_wp2_with fail
  refine (slot_any _ 10 3 64 0).mono ?_
  rintro e w3 ⟨rfl, hb⟩
  rw [ex_slot]
  have HB3 := Lib.hid (HB2.out.trans (hb.mono HB2.out.size))
  have HX3 := Lib.hid (HX2.out.keep hb)
  clear hb hc0 hc1 hc2
  have hc0 := HX3.out.c0
  have hc1 := HX3.out.c1
  have hc2 := HX3.out.c2
  go_wp2_with fail
  refine (block_any _ 10 3 64 0 (by unfold I64; decide) (by unfold I64; decide)).mono ?_
  rintro e w4 ⟨rfl, hb⟩
  rw [ex_block]
  have HB4 := Lib.hid (HB3.out.trans (hb.mono HB3.out.size))
  have HX4 := Lib.hid (HX3.out.keep hb)
  clear hb hc0 hc1 hc2
  have hc0 := HX4.out.c0
  have hc1 := HX4.out.c1
  have hc2 := HX4.out.c2
  go_wp2_with fail
  refine (words_any _ 10 3 64).mono ?_
  rintro e w5 ⟨rfl, hb⟩
  rw [ex_words]
  have HB5 := Lib.hid (HB4.out.trans (hb.mono HB4.out.size))
  clear hb hc0 hc1 hc2
  go_wp2
  go_ret
  exact ⟨rfl, HB5.out⟩

/-- the bytes of a small geometry's block -/
def sz (k : Nat) : Int := 64 * 2 ^ (k % 3)
theorem sz_cases (k : Nat) : sz k = 64 ∨ sz k = 128 ∨ sz k = 256 := by
  unfold sz
  have : k % 3 = 0 ∨ k % 3 = 1 ∨ k % 3 = 2 := by omega
  rcases this with h | h | h <;> rw [h] <;> decide
theorem sz_sz (k : Nat) : Sz (sz k) := by
  have := sz_cases k
  unfold Sz
  omega
theorem small_may (n m k : Nat) (hn : n < 256) (hm : m < 256) : may (1 + n) (1 + m) (sz k) = true := by
  refine may_yes ⟨⟨by omega, by omega, sz_sz k⟩, ?_⟩
  unfold fin bkAt bmAt lines
  rcases sz_cases k with h | h | h <;> rw [h] <;> omega

end Geo
end Go.Proofs.Ythfkbfbchoekjaa
