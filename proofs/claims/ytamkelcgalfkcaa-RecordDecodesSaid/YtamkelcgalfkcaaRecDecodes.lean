/- RecordDecodes, walked. -/
import Derived.Test.YtamkelcgalfkcaaRecLives
namespace Go.Proofs.Ytamkelcgalfkcaa
open Go.RowKit Go.MapKept
namespace Rec
open Lin
section
variable {w : World}

set_option maxHeartbeats 2000000 in
set_option maxRecDepth 100000 in
theorem decodes_any (A : Option Addr) (cp : Nat) (l : List Nat) (h : Pack.Wds w A l) :
    Calls Try.prog 4 #[.slice A l.length cp] w fun r w' => r = .returned (.bool true) ∧ Below w.heap.size w w' := by
  have hlen := h.len
  have H := Lib.hid h
  have HL := Lib.hid lives_any
  clear h
  by_cases h20 : l.length ≤ 20
  · go_enter Try.func4, Try.ntmps4
    go_wp2_with fail
    refine (HL.out _).mono ?_
    rintro e w0 ⟨rfl, hb⟩
    have HB0 := Lib.hid hb
    have H0 := Lib.hid (H.out.keep hb)
    clear hb H
    obtain ⟨s, f, t, c, hv⟩ : ∃ s f t c : Int, gv (dec l) = .agg #[.int .i64 s, .int .i64 f, .int .i64 t, .int .i64 c] := by
      cases dec l with
      | none => exact ⟨0, 0, 0, 0, rfl⟩
      | some q =>
        obtain ⟨s, f, t, c⟩ := q
        exact ⟨s, f, t, c, rfl⟩
    have HD := Lib.hid (fun W (hW : Pack.Wds W A l) => decode_any A cp l hW)
    have HR := Lib.hid (fun W (hW : Pack.Wds W A l) => refDecode_any A cp l hW)
    rw [hv] at HD HR
    generalize st l = er at *
    clear hv
    go_wp2_with fail
    refine (HD.out _ H0.out).mono ?_
    rintro e w1 ⟨rfl, hb⟩
    have hb0 := hb.alloc hb.size (.cells #[.int .i64 s, .int .i64 f, .int .i64 t, .int .i64 c] 23)
    have HB1 := Lib.hid (HB0.out.trans (hb0.mono HB0.out.size))
    have HX1 := Lib.hid (boxed4 w1 s f t c 23)
    have H1 := Lib.hid (H0.out.keep hb0)
    clear hb hb0 HB0 H0 HD
    go_wp2_with fail
    refine (HR.out _ H1.out).mono ?_
    rintro e w2 ⟨rfl, hb⟩
    have hb0 := hb.alloc hb.size (.cells #[.int .i64 s, .int .i64 f, .int .i64 t, .int .i64 c] 30)
    have HB2 := Lib.hid (HB1.out.trans (hb0.mono HB1.out.size))
    have HX2 := Lib.hid (HX1.out.keep hb0)
    have HY2 := Lib.hid (boxed4 w2 s f t c 30)
    have hc0 := HX2.out.c0
    have hc1 := HX2.out.c1
    have hc2 := HX2.out.c2
    have hc3 := HX2.out.c3
    have hd0 := HY2.out.c0
    have hd1 := HY2.out.c1
    have hd2 := HY2.out.c2
    have hd3 := HY2.out.c3
    clear hb hb0 HB1 HX1 H1 HR
    go_wp2
    go_ret
    exact ⟨rfl, HB2.out⟩
  · go_enter Try.func4, Try.ntmps4
    go_wp2_with fail
    refine (HL.out _).mono ?_
    rintro e w0 ⟨rfl, hb⟩
    have HB0 := Lib.hid hb
    clear hb
    go_wp2_with fail
    refine (HL.out _).mono ?_
    rintro e w1 ⟨rfl, hb⟩
    have HB1 := Lib.hid (HB0.out.trans (hb.mono HB0.out.size))
    clear hb
    go_wp2
    go_ret
    exact ⟨rfl, HB1.out⟩
end
end Rec
end Go.Proofs.Ytamkelcgalfkcaa
