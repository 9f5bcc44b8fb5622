/- SlotDecodes, walked. -/
import Derived.Test.YtjhmmllifecfkaaSloLives
namespace Go.Proofs.Ytjhmmllifecfkaa
open Go.RowKit Go.MapKept
namespace Slo
open Lin

set_option maxHeartbeats 2000000 in
set_option maxRecDepth 100000 in
theorem decodes_any (w : World) (x : Nat) (hx : x < 18446744073709551616) :
    Calls Try.prog 4 #[.int .u64 (x : Int)] w fun r w' => r = .returned (.bool true) ∧ Below w.heap.size w w' := by
  have HL := Lib.hid lives_any
  obtain ⟨s, c, n, er, is, hdec, href, hcase⟩ : ∃ (s c n er : Int) (is : Bool), (∀ W : World, Calls Try.prog 12 #[.int .u64 (x : Int)] W fun r w' => r = .returned (.tuple #[.agg #[.int .i64 s, .int .i64 c, .int .i64 n], .int .i64 er]) ∧ Below W.heap.size W w') ∧ (∀ W : World, Calls Try.prog 13 #[.int .u64 (x : Int)] W fun r w' => r = .returned (.tuple #[.agg #[.int .i64 s, .int .i64 c, .int .i64 n], .bool is]) ∧ Below W.heap.size W w') ∧ (er = 0 ∧ is = true ∨ er = 2 ∧ is = false) := by
    cases ho : dec x with
    | none =>
      refine ⟨0, 0, 0, 2, false, fun W => ?_, fun W => ?_, .inr ⟨rfl, rfl⟩⟩
      · have hd := decode_any W x hx
        rw [ho] at hd
        exact hd
      · have hd := refDecode_any W x hx
        rw [ho] at hd
        exact hd
    | some q =>
      obtain ⟨s, c, q⟩ := q
      refine ⟨s, c, nx q, 0, true, fun W => ?_, fun W => ?_, .inl ⟨rfl, rfl⟩⟩
      · have hd := decode_any W x hx
        rw [ho] at hd
        exact hd
      · have hd := refDecode_any W x hx
        rw [ho] at hd
        exact hd
  have HD := Lib.hid hdec
  have HR := Lib.hid href
  clear hdec href hx
  rcases hcase with ⟨rfl, rfl⟩ | ⟨rfl, rfl⟩
  all_goals
    (go_enter Try.func4, Try.ntmps4
     go_wp2_with fail
     refine (HL.out _).mono ?_
     rintro e w0 ⟨rfl, hb⟩
     have HB0 := Lib.hid hb
     clear hb
     go_wp2_with fail
     refine (HD.out _).mono ?_
     rintro e w1 ⟨rfl, hb⟩
     have hb0 := hb.alloc hb.size (.cells #[.int .i64 s, .int .i64 c, .int .i64 n] 23)
     have HB1 := Lib.hid (HB0.out.trans (hb0.mono HB0.out.size))
     have HX1 := Lib.hid (boxed w1 s c n 23)
     clear hb hb0 HB0 HD
     go_wp2_with fail
     refine (HR.out _).mono ?_
     rintro e w2 ⟨rfl, hb⟩
     have hb0 := hb.alloc hb.size (.cells #[.int .i64 s, .int .i64 c, .int .i64 n] 31)
     have HB2 := Lib.hid (HB1.out.trans (hb0.mono HB1.out.size))
     have HX2 := Lib.hid (HX1.out.keep hb0)
     have HY2 := Lib.hid (boxed w2 s c n 31)
     clear hb hb0 HB1 HX1 HR
     have hc0 := HX2.out.c0
     have hc1 := HX2.out.c1
     have hc2 := HX2.out.c2
     have hd0 := HY2.out.c0
     have hd1 := HY2.out.c1
     have hd2 := HY2.out.c2
     go_wp2
     go_ret
     exact ⟨rfl, HB2.out⟩)
end Slo
end Go.Proofs.Ytjhmmllifecfkaa
