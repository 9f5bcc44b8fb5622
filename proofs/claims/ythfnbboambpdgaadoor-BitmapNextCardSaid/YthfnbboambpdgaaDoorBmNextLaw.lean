/- BitmapNext, walked. -/
import Derived.Test.YthfnbboambpdgaaDoorBmSame
namespace Go.Proofs.YthfnbboambpdgaaDoor
open Go.RowKit Go.MapKept
namespace Bm
open Pack (Wds Nts)

/-- how many ahead of s are as u -/
def cu (f : Nat → Bool) (u : Bool) (s : Nat) : Nat := cnt (fun j => f j == u) s
theorem cu_le (f : Nat → Bool) (u : Bool) (s : Nat) : cu f u s ≤ s := cnt_le _ s
theorem cu_skip {f : Nat → Bool} {u : Bool} {s : Nat} : ∀ d, s ≤ d → (∀ c, s ≤ c → c < d → f c ≠ u) → cu f u d = cu f u s
  | 0, h, _ => by obtain rfl : s = 0 := by omega
                  rfl
  | d + 1, h, g => by
    by_cases e : s = d + 1
    · rw [e]
    · have ih := cu_skip d (by omega) (fun c h1 h2 => g c h1 (by omega))
      have hd := g d (by omega) (by omega)
      unfold cu at *
      rw [cnt, ih]
      simp [hd]
theorem cu_some {f : Nat → Bool} {u : Bool} {n s d : Nat} (h : next f u n s = (d : Int)) : s ≤ d ∧ d < n ∧ f d = u ∧ cu f u (d + 1) = cu f u s + 1 := by
  rcases next_is f u n s with ⟨e, _⟩ | ⟨b, e, h1, h2, h3, h4⟩
  · omega
  · obtain rfl : d = b := by omega
    refine ⟨h1, h2, h3, ?_⟩
    have := cu_skip d h1 h4
    unfold cu at *
    rw [cnt, this]
    simp [h3]
theorem cu_none {f : Nat → Bool} {u : Bool} {n s : Nat} (h : next f u n s < 0) (hs : s ≤ n) : cu f u n = cu f u s := by
  rcases next_is f u n s with ⟨e, g⟩ | ⟨b, e, h1, h2, h3, h4⟩
  · exact cu_skip n hs (fun c h1 h2 => g c h1 h2)
  · omega
theorem cu_true (f : Nat → Bool) (n : Nat) : cu f true n = cnt f n := cnt_congr (fun i _ => by simp)
theorem cu_false (f : Nat → Bool) : ∀ n, cu f false n = n - cnt f n
  | 0 => rfl
  | n + 1 => by
    have ih := cu_false f n
    have hl := cnt_le f n
    unfold cu at *
    rw [cnt, cnt, ih]
    cases f n <;> simp <;> omega

section
variable {w : World}
set_option maxRecDepth 100000 in
set_option maxHeartbeats 1000000 in
theorem next_long (n : Int) (A : Option Addr) (c k : Nat) (u : Bool) (hk : k ≤ 9223372036854775807) (h200 : ¬ k ≤ 200) (hT : Tab w) :
    Calls Tryd.prog 6 #[.int .u16 n, .slice A k c, .bool u] w fun r w' => r = .returned (.bool true) ∧ Below w.heap.size w w' := by
  have hlt := hT.lt
  have HT := Lib.hid hT
  have h2 : (200 : Int) < (k : Int) := by omega
  clear hT
  go_enter Tryd.func6, Tryd.ntmps6
  go_wp2_with fail
  refine (lives_any _ HT.out).mono ?_
  rintro e w1 ⟨rfl, hb⟩
  have HB := Lib.hid hb
  have HT1 := Lib.hid (HT.out.below hb hlt)
  clear hb
  go_wp2_with fail
  refine (lives_any _ HT1.out).mono ?_
  rintro e w2 ⟨rfl, hb⟩
  have HB2 := Lib.hid (HB.out.trans (hb.mono HB.out.size))
  clear hb
  go_wp2
  go_ret
  exact ⟨rfl, HB2.out⟩

set_option maxRecDepth 100000 in
set_option maxHeartbeats 2000000 in
theorem next_law (n : Nat) (A : Option Addr) (c : Nat) (l : List Int) (u : Bool) (hl : Nts w A l) (hT : Tab w) :
    Calls Tryd.prog 6 #[.int .u16 (n : Int), .slice A l.length c, .bool u] w fun r w' => r = .returned (.bool true) ∧ Below w.heap.size w w' := by
  by_cases h200 : l.length ≤ 200
  · have hlt := hT.lt
    have HT := Lib.hid hT
    have HL := Lib.hid hl
    obtain ⟨m, hm⟩ : ∃ m : Nat, m = n % 300 := ⟨_, rfl⟩
    have hn : (n : Int) % 300 = (m : Int) := by omega
    have hm3 : m < 300 := by omega
    have h2 : ¬ (200 : Int) < (l.length : Int) := by omega
    obtain ⟨K, hK⟩ : ∃ K : Nat, K = (m + 63) / 64 := ⟨_, rfl⟩
    have HN := Lib.hid (fun w => new_any (m : Int) m K (by omega) hK w)
    clear hT hl hm hK
    go_enter Tryd.func6, Tryd.ntmps6
    go_wp2_with fail
    refine (lives_any _ HT.out).mono ?_
    rintro e w1 ⟨rfl, hb⟩
    have HB := Lib.hid hb
    clear hb
    go_wp2_with fail
    refine (HN.out _).mono ?_
    rintro e w2 ⟨rfl, hM, hb⟩
    have HM := Lib.hid hM
    have HB2 := Lib.hid (HB.out.trans (hb.mono HB.out.size))
    have hs1 := HB.out.size
    have hs2 : w1.heap.size < w2.heap.size := hM.row.lt
    clear hb hM
    have HP := Lib.hid (put_any HM.out A c l (fun w' hc => HL.out.keep (HB2.out.trans (hc.below (by omega) hs1))))
    obtain ⟨f, hf⟩ : ∃ f, f = (tn m true (fun _ => false) l).1 := ⟨_, rfl⟩
    rw [← hf] at HP
    clear hf
    go_wp2_with fail
    refine HP.out.mono ?_
    rintro e w3 ⟨rfl, hM, hc⟩
    have HM3 := Lib.hid hM
    have HB3 := Lib.hid (HB2.out.trans (hc.below (by omega) hs1))
    have HT3 := Lib.hid (HT.out.below HB3.out hlt)
    clear hM hc
    have HNX := Lib.hid (fun k s (hs : s ≤ 9223372036854775807) => next_any (HM3.out.drewN k) (HT3.out.drewN k) ((s : Nat) : Int) u (by omega))
    have HN0 := Lib.hid (show Calls Tryd.prog 15 #[.pointer (some ⟨w1.heap.size + 1, 0, none⟩), .int .i64 0, .bool u] w3 fun e w' => e = .returned (.int .i64 (next f u m 0)) ∧ w3 = w' from next_any HM3.out HT3.out 0 u (by decide))
    go_wp2_with fail
    refine HN0.out.mono ?_
    rintro e w4 ⟨rfl, rfl⟩
    go_wp2_with fail
    go_loopw [8, 9] (fun k b wr => ∃ s j : Nat, s ≤ m ∧ k = .int .i64 (cu f u s : Int) ∧ b = .int .i64 (next f u m s) ∧ wr = w3.drewN j) (fun k _ _ => 301 - (intOf k).toNat)
    case atStart => exact ⟨0, 0, Nat.zero_le _, rfl, rfl, rfl⟩
    case round =>
      obtain ⟨s, j, hs, rfl, rfl, hwr⟩ := hrel
      have hcl := cu_le f u s
      have HW := Lib.hid hwr
      have HMR := Lib.hid (hwr ▸ HM3.out.drewN j : Mp wr (w1.heap.size + 1) w1.heap.size K K m f)
      clear hwr
      by_cases hneg : next f u m s < 0
      · have HE := Lib.hid (cu_none hneg hs)
        have hneg2 : ¬ 0 ≤ next f u m s := by omega
        generalize next f u m s = b at *
        generalize cu f u s = kk at *
        cases u with
        | true =>
          have HC := Lib.hid (count_any HMR.out)
          rw [← cu_true, HE.out] at HC
          go_wp2_with fail
          refine HC.out.mono ?_
          rintro e w5 ⟨rfl, rfl⟩
          go_wp2
          go_ret
          refine ⟨rfl, ?_⟩
          rw [HW.out]
          exact below_drewN HB3.out j
        | false =>
          have HC := Lib.hid (free_any HMR.out)
          rw [← cu_false, HE.out] at HC
          go_wp2_with fail
          refine HC.out.mono ?_
          rintro e w5 ⟨rfl, k5, hw5⟩
          have HW5 := Lib.hid hw5
          clear hw5
          go_wp2
          go_ret
          refine ⟨rfl, ?_⟩
          rw [HW5.out, HW.out]
          exact below_drewN (below_drewN HB3.out j) k5
      · obtain ⟨d, hd⟩ := Int.eq_ofNat_of_zero_le (show 0 ≤ next f u m s by omega)
        obtain ⟨h1, h2', h3, h4⟩ := cu_some hd
        have HE := Lib.hid h4
        have HH := Lib.hid (has_yes HMR.out d h2')
        rw [h3] at HH
        rw [hd]
        have hd0 : (0 : Int) ≤ (d : Int) := by omega
        have hk3 : ¬ (300 : Int) < (cu f u s : Int) := by omega
        clear hneg hd h3 h4
        generalize cu f u s = kk at *
        go_wp2_with fail
        refine HH.out.mono ?_
        rintro e w5 ⟨rfl, k5, hw5⟩
        have hw6 : w5 = w3.drewN (j + k5) := by rw [hw5, HW.out, World.drewN_drewN]
        have HW6 := Lib.hid hw6
        have hnx := HNX.out (j + k5) (d + 1) (by omega)
        rw [← hw6, Int.toNat_natCast, show ((d + 1 : Nat) : Int) = (d : Int) + 1 by omega] at hnx
        have HX := Lib.hid hnx
        clear hw5 hw6 hnx
        cases u <;>
        · go_wp2_with fail
          refine HX.out.mono ?_
          rintro e w6 ⟨rfl, rfl⟩
          go_wp2
          exact ⟨⟨d + 1, j + k5, by omega, by rw [HE.out]; go_num, rfl, HW6.out⟩, by simp [intOf]; omega⟩
  · exact next_long (n : Int) A c l.length u hl.len h200 hT
end
end Bm
end Go.Proofs.YthfnbboambpdgaaDoor
