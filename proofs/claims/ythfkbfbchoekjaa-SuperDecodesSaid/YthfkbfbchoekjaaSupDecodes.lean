/- SuperDecodes, walked. -/
import Derived.Test.YthfkbfbchoekjaaSupLives
namespace Go.Proofs.Ythfkbfbchoekjaa
open Go.RowKit Go.MapKept
namespace Sup
section
variable {w : World}
set_option maxHeartbeats 1000000 in
theorem decodes_any (A : Option Addr) (c : Nat) (l : List Nat) (h : Pack.Wds w A l) :
    Calls Try.prog 4 #[.slice A l.length c] w fun r w' => r = .returned (.bool true) ∧ Below w.heap.size w w' := by
  have hlen := h.len
  have H := Lib.hid h
  have HL := Lib.hid lives_any
  clear h
  by_cases h20 : l.length ≤ 20
  · go_enter Try.func4, Try.ntmps4
    go_wp2_with fail
    refine (HL.out _).mono ?_
    rintro e w0 ⟨rfl, hb⟩
    have HB0 := Lib.hid hb
    have H0 := Lib.hid (H.out.keep hb)
    clear hb H
    cases ho : dec l with
    | none =>
      have hd := decode_any A c l H0.out
      rw [ho] at hd
      simp only [gv, ev] at hd
      have HD := Lib.hid hd
      have HO := Lib.hid ho
      clear hd ho
      go_wp2_with fail
      refine HD.out.mono ?_
      rintro e w1 ⟨rfl, hb⟩
      have hb0 := hb.alloc hb.size (.cells #[.int .i64 0, .int .i64 0, .int .i64 0] 24)
      have HB1 := Lib.hid (HB0.out.trans (hb0.mono HB0.out.size))
      have HX1 := Lib.hid (Geo.boxed w1 0 0 0 24)
      have hr := refDecode_any A c l (H0.out.keep hb0)
      rw [HO.out] at hr
      simp only [rv] at hr
      have HR := Lib.hid hr
      clear hb hb0 hr HB0 H0 HD
      go_wp2_with fail
      refine HR.out.mono ?_
      rintro e w2 ⟨rfl, hb⟩
      have HB2 := Lib.hid (HB1.out.trans (hb.mono HB1.out.size))
      have HX2 := Lib.hid (HX1.out.keep hb)
      have hc0 := HX2.out.c0
      have hc1 := HX2.out.c1
      have hc2 := HX2.out.c2
      clear hb HB1 HX1 HR
      generalize w1.heap.size = k1 at *
      go_wp2
      go_ret
      exact ⟨rfl, HB2.out⟩
    | some q =>
      obtain ⟨n, m, s⟩ := q
      have hd := decode_any A c l H0.out
      rw [ho] at hd
      simp only [gv, ev] at hd
      have HD := Lib.hid hd
      have HO := Lib.hid ho
      clear hd ho
      go_wp2_with fail
      refine HD.out.mono ?_
      rintro e w1 ⟨rfl, hb⟩
      have hb0 := hb.alloc hb.size (.cells #[.int .i64 (n : Int), .int .i64 (m : Int), .int .i64 (s : Int)] 24)
      have HB1 := Lib.hid (HB0.out.trans (hb0.mono HB0.out.size))
      have HX1 := Lib.hid (Geo.boxed w1 n m s 24)
      have hr := refDecode_any A c l (H0.out.keep hb0)
      rw [HO.out] at hr
      simp only [rv] at hr
      have HR := Lib.hid hr
      clear hb hb0 hr HB0 H0 HD
      go_wp2_with fail
      refine HR.out.mono ?_
      rintro e w2 ⟨rfl, hb⟩
      have HB2 := Lib.hid (HB1.out.trans (hb.mono HB1.out.size))
      have HX2 := Lib.hid (HX1.out.keep hb)
      have hc0 := HX2.out.c0
      have hc1 := HX2.out.c1
      have hc2 := HX2.out.c2
      clear hb HB1 HX1 HR
      generalize w1.heap.size = k1 at *
      go_wp2
      go_ret
      exact ⟨rfl, HB2.out⟩
  · go_enter Try.func4, Try.ntmps4
    go_wp2_with fail
    refine (HL.out _).mono ?_
    rintro e w0 ⟨rfl, hb⟩
    have HB0 := Lib.hid hb
    clear hb
    go_wp2_with fail
    refine (HL.out _).mono ?_
    rintro e w1 ⟨rfl, hb⟩
    have HB1 := Lib.hid (HB0.out.trans (hb.mono HB0.out.size))
    clear hb
    go_wp2
    go_ret
    exact ⟨rfl, HB1.out⟩
end
end Sup
end Go.Proofs.Ythfkbfbchoekjaa
