/- The chapter's example; SuperEncodes and SuperDecodes, walked. -/
import Derived.Test.YthfkbfbchoekjaaSupRefDec
import Derived.Test.YthfkbfbchoekjaaPmLives
namespace Go.Proofs.Ythfkbfbchoekjaa
open Go.RowKit Go.MapKept
namespace Sup

theorem nums_ex : nums 10 3 64 = 274878103562 := by decide
theorem may_ex : Geo.may ((10 : Nat) : Int) ((3 : Nat) : Int) ((64 : Nat) : Int) = true := by decide

theorem row_keep {w w' : World} {g : Nat} {l : List Nat} (h : w.rowIs g 39 8 (rowOf l)) (hb : Below w.heap.size w w') : w'.rowIs g 39 8 (rowOf l) := h.of_block (hb.block _ h.lt)

set_option maxHeartbeats 1000000 in
theorem lives_any (w : World) : Calls Try.prog 7 #[] w fun r w' => r = .returned (.bool true) ∧ Below w.heap.size w w' := by
  have he : Calls Try.prog 8 #[.agg #[.int .i64 10, .int .i64 3, .int .i64 64]] w fun r w' => ∃ g : Nat, w.heap.size ≤ g ∧ r = .returned (.tuple #[.slice (some ⟨g, 0, none⟩) 8 8, .int .i64 0]) ∧ w'.rowIs g 39 8 (rowOf (sb 10 3 64)) ∧ Below w.heap.size w w' := encode_yes w 10 3 64 may_ex
  have HE := Lib.hid he
  have H1 := Lib.hid Pm.lives_any
  have H2 := Lib.hid Crc.lives_any
  have H3 := Lib.hid Pack.lives_any
  have H4 := Lib.hid Geo.lives_any
  clear he
  go_enter Try.func7, Try.ntmps7
  go_wp2_with fail
  refine HE.out.mono ?_
  rintro e w0 ⟨g, _, rfl, hrow, hb⟩
  have HR0 := Lib.hid hrow
  have HB0 := Lib.hid hb
  clear hrow hb HE
  go_wp2_with fail
  refine (H1.out _).mono ?_
  rintro e w1 ⟨rfl, hb⟩
  have HR1 := Lib.hid (row_keep HR0.out hb)
  have HB1 := Lib.hid (HB0.out.trans (hb.mono HB0.out.size))
  clear hb HR0 HB0
  go_wp2_with fail
  refine (H2.out _).mono ?_
  rintro e w2 ⟨rfl, hb⟩
  have HR2 := Lib.hid (row_keep HR1.out hb)
  have HB2 := Lib.hid (HB1.out.trans (hb.mono HB1.out.size))
  clear hb HR1 HB1
  go_wp2_with fail
  refine (H3.out _).mono ?_
  rintro e w3 ⟨rfl, hb⟩
  have HR3 := Lib.hid (row_keep HR2.out hb)
  have HB3 := Lib.hid (HB2.out.trans (hb.mono HB2.out.size))
  clear hb HR2 HB2
  go_wp2_with fail
  refine (H4.out _).mono ?_
  rintro e w4 ⟨rfl, hb⟩
  have HR4 := Lib.hid (row_keep HR3.out hb)
  have HB4 := Lib.hid (HB3.out.trans (hb.mono HB3.out.size))
  clear hb HR3 HB3
  have hc1 : w4.cell? ⟨g, 1, none⟩ = some (.int .u64 274878103562) := by
    rw [HR4.out.cell (i := 1) (by omega)]
    show some (Value.int .u64 ((nums 10 3 64 : Nat) : Int)) = _
    rw [nums_ex]
    rfl
  go_wp2
  go_ret
  exact ⟨rfl, HB4.out⟩

set_option maxHeartbeats 1000000 in
theorem encodes_no (w : World) (n m s : Int) (hm : Geo.may n m s = false) :
    Calls Try.prog 3 #[.int .i64 n, .int .i64 m, .int .i64 s] w fun r w' => r = .returned (.bool true) ∧ Below w.heap.size w w' := by
  have HE := Lib.hid (fun w => encode_no w n m s hm)
  have HF := Lib.hid (fun w => refEncode_no w n m s hm)
  have HS := Lib.hid (fun (w : World) => Pack.same_any (w := w) none none 0 0 [] [] (Pack.wds_nil _ _) (Pack.wds_nil _ _))
  have HL := Lib.hid lives_any
  clear hm
  go_enter Try.func3, Try.ntmps3
  go_wp2_with fail
  refine (HL.out _).mono ?_
  rintro e w0 ⟨rfl, hb⟩
  have HB0 := Lib.hid (hb.alloc hb.size (.cells #[.int .i64 n, .int .i64 m, .int .i64 s] 24))
  clear hb
  go_wp2_with fail
  refine (HE.out _).mono ?_
  rintro e w1 ⟨rfl, hb⟩
  have HB1 := Lib.hid (HB0.out.trans (hb.mono HB0.out.size))
  clear hb HB0
  go_wp2_with fail
  refine (HF.out _).mono ?_
  rintro e w2 ⟨rfl, hb⟩
  have HB2 := Lib.hid (HB1.out.trans (hb.mono HB1.out.size))
  clear hb HB1
  go_wp2_with fail
  refine (HS.out _).mono ?_
  rintro e w3 ⟨rfl, k, hk⟩
  have HB3 := Lib.hid (show Below w.heap.size w w3 by rw [hk]; exact Pack.below_drewN HB2.out k)
  clear hk HB2
  go_wp2
  go_ret
  exact ⟨rfl, HB3.out⟩

set_option maxHeartbeats 1000000 in
theorem encodes_yes (w : World) (n m s : Nat) (hm : Geo.may n m s = true) :
    Calls Try.prog 3 #[.int .i64 (n : Int), .int .i64 (m : Int), .int .i64 (s : Int)] w fun r w' => r = .returned (.bool true) ∧ Below w.heap.size w w' := by
  obtain ⟨h1, h2, h3⟩ := may_lt hm
  have HU := Lib.hid (sb_u64 h1 h2 h3)
  have HE := Lib.hid (fun w => encode_yes w n m s hm)
  have HF := Lib.hid (fun w => refEncode_yes w n m s hm)
  have HD := Lib.hid (dec_sb hm)
  have HL := Lib.hid lives_any
  clear hm h1 h2 h3
  go_enter Try.func3, Try.ntmps3
  go_wp2_with fail
  refine (HL.out _).mono ?_
  rintro e w0 ⟨rfl, hb⟩
  have HB0 := Lib.hid (hb.alloc hb.size (.cells #[.int .i64 (n : Int), .int .i64 (m : Int), .int .i64 (s : Int)] 24))
  have HX0 := Lib.hid (Geo.boxed w0 n m s 24)
  clear hb
  go_wp2_with fail
  refine (HE.out _).mono ?_
  rintro e w1 ⟨g, _, rfl, hrow, hb⟩
  have HB1 := Lib.hid (HB0.out.trans (hb.mono HB0.out.size))
  have HX1 := Lib.hid (HX0.out.keep hb)
  have HR1 := Lib.hid (row_pack hrow rfl HU.out)
  clear hb HB0 HX0 hrow
  generalize w0.heap.size = k0 at *
  go_wp2_with fail
  refine (HF.out _).mono ?_
  rintro e w2 ⟨G, gc, rfl, hw, hb⟩
  have HB2 := Lib.hid (HB1.out.trans (hb.mono HB1.out.size))
  have HX2 := Lib.hid (HX1.out.keep hb)
  have hsame := Pack.same_any (some ⟨g, 0, none⟩) G 8 gc (sb n m s) (sb n m s) (HR1.out.keep hb) hw
  rw [sb_len, decide_eq_true rfl] at hsame
  have HS := Lib.hid hsame
  have HR2 := Lib.hid (HR1.out.keep hb)
  clear hb HB1 HX1 hw hsame HR1
  go_wp2_with fail
  refine HS.out.mono ?_
  rintro e w3 ⟨rfl, k, hk⟩
  have HB3 := Lib.hid (show Below w.heap.size w w3 by rw [hk]; exact Pack.below_drewN HB2.out k)
  have HX3 := Lib.hid (show Geo.Box w3 k0 n m s by rw [hk]; exact ⟨HX2.out.lt, HX2.out.c0, HX2.out.c1, HX2.out.c2⟩)
  have hd := decode_any (some ⟨g, 0, none⟩) 8 (sb n m s) (show Pack.Wds w3 _ _ by rw [hk]; exact HR2.out.drewN k)
  rw [HD.out, sb_len] at hd
  simp only [gv, ev] at hd
  have HDD := Lib.hid hd
  clear hk HB2 HX2 HR2 hd HS
  go_wp2_with fail
  refine HDD.out.mono ?_
  rintro e w4 ⟨rfl, hb⟩
  have HB4 := Lib.hid (HB3.out.trans (hb.mono HB3.out.size))
  have HX4 := Lib.hid (HX3.out.keep hb)
  have hlt : k0 < w4.heap.size := HX4.out.lt
  have hc0 := HX4.out.c0
  have hc1 := HX4.out.c1
  have hc2 := HX4.out.c2
  clear hb HB3 HX3 HDD
  go_wp2
  go_ret
  exact ⟨rfl, HB4.out.alloc HB4.out.size _⟩

theorem encodes_any (w : World) (n m s : Int) :
    Calls Try.prog 3 #[.int .i64 n, .int .i64 m, .int .i64 s] w fun r w' => r = .returned (.bool true) ∧ Below w.heap.size w w' := by
  cases hm : Geo.may n m s with
  | false => exact encodes_no w n m s hm
  | true =>
    obtain ⟨⟨h1, h2, h3⟩, _⟩ := Geo.may_num hm
    have h4 := h3.bounds
    obtain ⟨n, rfl⟩ := Int.eq_ofNat_of_zero_le (show 0 ≤ n by omega)
    obtain ⟨m, rfl⟩ := Int.eq_ofNat_of_zero_le (show 0 ≤ m by omega)
    obtain ⟨s, rfl⟩ := Int.eq_ofNat_of_zero_le (show 0 ≤ s by omega)
    exact encodes_yes w n m s hm
end Sup
end Go.Proofs.Ythfkbfbchoekjaa
