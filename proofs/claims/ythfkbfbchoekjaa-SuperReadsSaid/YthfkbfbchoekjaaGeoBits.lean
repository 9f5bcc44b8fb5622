/- The bitmap's place, a block's bit, how many blocks bytes take; the chapter's example. -/
import Derived.Test.YthfkbfbchoekjaaGeoCalls
namespace Go.Proofs.Ythfkbfbchoekjaa
open Go.RowKit Go.MapKept
namespace Geo

set_option maxHeartbeats 1000000 in
theorem bitmap_any (w : World) (n m s : Int) :
    Calls Try.prog 42 #[.agg #[.int .i64 n, .int .i64 m, .int .i64 s]] w fun r w' => r = .returned (.tuple #[.int .i64 (iff' n m s (bmAt n m) (-1)), .int .i64 (iff' n m s ((n + 63) / 64) 0)]) ∧ Below w.heap.size w w' := by
  have HM := Lib.hid (fun w => may_any w n m s)
  have HB := Lib.hid ((Below.refl w.heap.size w).alloc (Nat.le_refl _) (.cells #[.int .i64 n, .int .i64 m, .int .i64 s] 24))
  have HX := Lib.hid (boxed w n m s 24)
  cases hm : may n m s with
  | false =>
    have HE := Lib.hid hm
    have HI := Lib.hid (iff_no (x := bmAt n m) (y := -1) hm)
    have HJ := Lib.hid (iff_no (x := (n + 63) / 64) (y := 0) hm)
    clear hm
    go_enter Try.func42, Try.ntmps42
    go_wp2_with fail
    refine (HM.out _).mono ?_
    rintro e w' ⟨rfl, hb⟩
    rw [HE.out]
    have HB1 := Lib.hid (HB.out.trans (hb.mono HB.out.size))
    clear hb
    go_wp2
    go_ret2
    exact ⟨by rw [HI.out, HJ.out]; rfl, HB1.out⟩
  | true =>
    have HE := Lib.hid hm
    have HI := Lib.hid (iff_yes (x := bmAt n m) (y := -1) hm)
    have HJ := Lib.hid (iff_yes (x := (n + 63) / 64) (y := 0) hm)
    obtain ⟨⟨h1, h2, h3⟩, _⟩ := may_num hm
    have HN := Lib.hid (fun w => bitmapAt_any w n m s h1 h2)
    have HW := Lib.hid (fun w => bitWords_any w n m s (by omega) (by omega))
    clear hm h1 h2 h3
    go_enter Try.func42, Try.ntmps42
    go_wp2_with fail
    refine (HM.out _).mono ?_
    rintro e w1 ⟨rfl, hb⟩
    rw [HE.out]
    have HB1 := Lib.hid (HB.out.trans (hb.mono HB.out.size))
    have HX1 := Lib.hid (HX.out.keep hb)
    clear hb
    have hc0 := HX1.out.c0
    have hc1 := HX1.out.c1
    have hc2 := HX1.out.c2
    go_wp2
    go_region_held3 (fun W' => W'.cell? ⟨w.heap.size, 0, none⟩ = some (.int .i64 n) ∧ W'.cell? ⟨w.heap.size, 1, none⟩ = some (.int .i64 m) ∧ W'.cell? ⟨w.heap.size, 2, none⟩ = some (.int .i64 s)) (go_keep)
      (first
      | (go_at_call 59
         with_reducible refine (HN.out _).mono ?_
         rintro e w2 ⟨rfl, hb⟩
         have HY := Lib.hid (HX1.out.drew.keep hb)
         have hk0 := HY.out.c0
         have hk1 := HY.out.c1
         have hk2 := HY.out.c2
         have HB2 := Lib.hid (HB1.out.drew.trans (hb.mono HB1.out.drew.size))
         clear hb)
      | (go_at_call 60
         with_reducible refine (HW.out _).mono ?_
         rintro e w3 ⟨rfl, hb⟩
         have HZ := Lib.hid (HY.out.keep hb)
         have hl0 := HZ.out.c0
         have hl1 := HZ.out.c1
         have hl2 := HZ.out.c2
         have HB3 := Lib.hid (HB2.out.trans (hb.mono HB2.out.size))
         clear hb))
    go_wp2
    go_ret2
    exact ⟨by rw [HI.out, HJ.out]; rfl, HB3.out⟩

/-- that there is such a block -/
def Is (n m s i : Int) : Prop := may n m s = true ∧ 0 ≤ i ∧ i < n
instance (n m s i : Int) : Decidable (Is n m s i) := by unfold Is; infer_instance
/-- x, if there is such a block; else y -/
def isf (n m s i x y : Int) : Int := if Is n m s i then x else y
theorem isf_yes {n m s i x y : Int} (h : Is n m s i) : isf n m s i x y = x := if_pos h
theorem isf_no {n m s i x y : Int} (h : ¬ Is n m s i) : isf n m s i x y = y := if_neg h

/-- how many blocks bytes take -/
def need (n m s b : Int) : Int := if may n m s = true ∧ 0 ≤ b then prt b s else 0
theorem need_yes {n m s b : Int} (h1 : may n m s = true) (h2 : 0 ≤ b) : need n m s b = prt b s := if_pos ⟨h1, h2⟩
theorem need_no {n m s b : Int} (h : may n m s = false) : need n m s b = 0 := if_neg (fun h' => by simp [h] at h')
theorem need_neg {n m s b : Int} (h : ¬ 0 ≤ b) : need n m s b = 0 := if_neg (fun h' => h h'.2)

end Geo
end Go.Proofs.Ythfkbfbchoekjaa
