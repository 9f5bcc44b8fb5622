/- GeometryPlaces, walked: of any numbers whether the geometry may be, and where everything stands. -/
import Derived.Test.YtoagfpjaaiodgaaGeoRef
namespace Go.Proofs.Ytoagfpjaaiodgaa
open Go.RowKit Go.MapKept
namespace Geo

/-- parts lie in block b -/
structure Prts (w : World) (b : Nat) (x0 x1 x2 x3 x4 : Int) : Prop where
  lt : b < w.heap.size
  c0 : w.cell? ⟨b, 0, none⟩ = some (.int .i64 x0)
  c1 : w.cell? ⟨b, 1, none⟩ = some (.int .i64 x1)
  c2 : w.cell? ⟨b, 2, none⟩ = some (.int .i64 x2)
  c3 : w.cell? ⟨b, 3, none⟩ = some (.int .i64 x3)
  c4 : w.cell? ⟨b, 4, none⟩ = some (.int .i64 x4)
theorem Prts.keep {w w' : World} {b : Nat} {x0 x1 x2 x3 x4 : Int} (h : Prts w b x0 x1 x2 x3 x4) (hb : Below w.heap.size w w') : Prts w' b x0 x1 x2 x3 x4 :=
  ⟨Nat.lt_of_lt_of_le h.lt hb.size, (hb.cell (p := ⟨b, 0, none⟩) h.lt).trans h.c0, (hb.cell (p := ⟨b, 1, none⟩) h.lt).trans h.c1, (hb.cell (p := ⟨b, 2, none⟩) h.lt).trans h.c2, (hb.cell (p := ⟨b, 3, none⟩) h.lt).trans h.c3, (hb.cell (p := ⟨b, 4, none⟩) h.lt).trans h.c4⟩
theorem Prts.drew {w : World} {b : Nat} {x0 x1 x2 x3 x4 : Int} (h : Prts w b x0 x1 x2 x3 x4) : Prts w.drew b x0 x1 x2 x3 x4 := ⟨h.lt, h.c0, h.c1, h.c2, h.c3, h.c4⟩
theorem parted (w : World) (x0 x1 x2 x3 x4 : Int) (t : TypeId) : Prts (w.alloc (.cells #[.int .i64 x0, .int .i64 x1, .int .i64 x2, .int .i64 x3, .int .i64 x4] t)) w.heap.size x0 x1 x2 x3 x4 :=
  ⟨by simp, World.cell?_alloc_mark w _ t _ 0, World.cell?_alloc_mark w _ t _ 1, World.cell?_alloc_mark w _ t _ 2, World.cell?_alloc_mark w _ t _ 3, World.cell?_alloc_mark w _ t _ 4⟩
theorem Box.alloc {w : World} {b : Nat} {n m s : Int} (h : Box w b n m s) (o : Obj) : Box (w.alloc o) b n m s := h.keep ((Below.refl _ _).alloc (Nat.le_refl _) o)

set_option maxHeartbeats 4000000 in
set_option maxRecDepth 100000 in
theorem places_no (w : World) (n m s i : Int) (hn : I64 n) (hs : I64 s) (hi : i ≤ 9223372036854775807) (hm : may n m s = false) :
    Calls Try.prog 3 #[.int .i64 n, .int .i64 m, .int .i64 s, .int .i64 i] w fun r w' => r = .returned (.bool true) ∧ Below w.heap.size w w' := by
  have HL := Lib.hid (lives_any w)
  have hni : ¬ Is n m s i := fun h => by have := h.1; simp [hm] at this
  have HO : Hid (∀ w, Calls Try.prog 8 #[.int .i64 n, .int .i64 m, .int .i64 s] w fun r w' => r = .returned (.tuple #[.agg #[.int .i64 0, .int .i64 0, .int .i64 0, .int .i64 0, .int .i64 0], .bool false]) ∧ Below w.heap.size w w') := Lib.hid (fun w => by
    have := of_any w n m s; rwa [parts_no hm, hm] at this)
  have C9 : Hid (∀ w, Calls Try.prog 9 #[.agg #[.int .i64 n, .int .i64 m, .int .i64 s], .int .i64 i] w fun r w' => r = .returned (.tuple #[.int .i64 (-1), .int .i64 0]) ∧ Below w.heap.size w w') := Lib.hid (fun w => by
    have := bit_any w n m s i; rwa [isf_no hni, isf_no hni] at this)
  have C10 : Hid (∀ w, Calls Try.prog 10 #[.agg #[.int .i64 n, .int .i64 m, .int .i64 s]] w fun r w' => r = .returned (.tuple #[.int .i64 (-1), .int .i64 0]) ∧ Below w.heap.size w w') := Lib.hid (fun w => by
    have := bitmap_any w n m s; rwa [iff_no hm, iff_no hm] at this)
  have C11 : Hid (∀ w, Calls Try.prog 11 #[.agg #[.int .i64 n, .int .i64 m, .int .i64 s]] w fun r w' => r = .returned (.bool false) ∧ Below w.heap.size w w') := Lib.hid (fun w => by
    have := may_any w n m s; rwa [hm] at this)
  have C12 : Hid (∀ w, Calls Try.prog 12 #[.agg #[.int .i64 n, .int .i64 m, .int .i64 s]] w fun r w' => r = .returned (.int .i64 0) ∧ Below w.heap.size w w') := Lib.hid (fun w => by
    have := words_any w n m s; rwa [iff_no hm] at this)
  have C13 : Hid (∀ w, Calls Try.prog 13 #[.agg #[.int .i64 n, .int .i64 m, .int .i64 s]] w fun r w' => r = .returned (.int .i64 (-1)) ∧ Below w.heap.size w w') := Lib.hid (fun w => by
    have := super_any w n m s; rwa [plc_no hm] at this)
  have C14 : Hid (∀ w, Calls Try.prog 14 #[.agg #[.int .i64 n, .int .i64 m, .int .i64 s]] w fun r w' => r = .returned (.int .i64 (-1)) ∧ Below w.heap.size w w') := Lib.hid (fun w => by
    have := record_any w n m s; rwa [plc_no hm] at this)
  have C15 : Hid (∀ w, Calls Try.prog 15 #[.agg #[.int .i64 n, .int .i64 m, .int .i64 s], .int .i64 i] w fun r w' => r = .returned (.int .i64 (-1)) ∧ Below w.heap.size w w') := Lib.hid (fun w => by
    have := inode_any w n m s i; rwa [plc_no hm] at this)
  have C16 : Hid (∀ w, Calls Try.prog 16 #[.agg #[.int .i64 n, .int .i64 m, .int .i64 s], .int .i64 i] w fun r w' => r = .returned (.int .i64 (-1)) ∧ Below w.heap.size w w') := Lib.hid (fun w => by
    have := slot_any w n m s i; rwa [plc_no hm] at this)
  have C17 : Hid (∀ w, Calls Try.prog 17 #[.agg #[.int .i64 n, .int .i64 m, .int .i64 s], .int .i64 i] w fun r w' => r = .returned (.int .i64 (-1)) ∧ Below w.heap.size w w') := Lib.hid (fun w => by
    have := block_any w n m s i hn hs; rwa [plc_no hm] at this)
  have C18 : Hid (∀ w, Calls Try.prog 18 #[.agg #[.int .i64 n, .int .i64 m, .int .i64 s]] w fun r w' => r = .returned (.int .i64 0) ∧ Below w.heap.size w w') := Lib.hid (fun w => by
    have := each_any w n m s; rwa [iff_no hm] at this)
  have C19 : Hid (∀ w, Calls Try.prog 19 #[.agg #[.int .i64 n, .int .i64 m, .int .i64 s], .int .i64 i] w fun r w' => r = .returned (.int .i64 0) ∧ Below w.heap.size w w') := Lib.hid (fun w => by
    have := need_any w n m s i hi; rwa [need_no hm] at this)
  clear hm hni hn hs hi
  go_enter Try.func3, Try.ntmps3
  go_wp2_with fail
  refine HL.out.mono ?_
  rintro e w1 ⟨rfl, hb⟩
  have HB1 := Lib.hid (hb.alloc hb.size (.cells #[.int .i64 n, .int .i64 m, .int .i64 s] 24))
  have HX1 := Lib.hid (boxed w1 n m s 24)
  clear hb
  go_wp2_with fail
  refine (HO.out _).mono ?_
  rintro e w2 ⟨rfl, hb⟩
  have h2 := HB1.out.trans (hb.mono HB1.out.size)
  have HB2 := Lib.hid (h2.alloc h2.size (.cells #[.int .i64 0, .int .i64 0, .int .i64 0, .int .i64 0, .int .i64 0] 26))
  have HX2 := Lib.hid ((HX1.out.keep hb).alloc (.cells #[.int .i64 0, .int .i64 0, .int .i64 0, .int .i64 0, .int .i64 0] 26))
  clear hb h2
  generalize w1.heap.size = b at *
  have hc0 := HX2.out.c0
  have hc1 := HX2.out.c1
  have hc2 := HX2.out.c2
  go_wp2_with fail
  refine (C9.out _).mono ?_
  rintro e w3 ⟨rfl, hb⟩
  have HB3 := Lib.hid (HB2.out.trans (hb.mono HB2.out.size))
  have HX3 := Lib.hid (HX2.out.keep hb)
  clear hb hc0 hc1 hc2
  have hc0 := HX3.out.c0
  have hc1 := HX3.out.c1
  have hc2 := HX3.out.c2
  clear C9 HB2 HX2
  go_wp2_with fail
  refine (C10.out _).mono ?_
  rintro e w4 ⟨rfl, hb⟩
  have HB4 := Lib.hid (HB3.out.trans (hb.mono HB3.out.size))
  have HX4 := Lib.hid (HX3.out.keep hb)
  clear hb hc0 hc1 hc2
  have hc0 := HX4.out.c0
  have hc1 := HX4.out.c1
  have hc2 := HX4.out.c2
  clear C10 HB3 HX3
  go_wp2_with fail
  refine (C11.out _).mono ?_
  rintro e w5 ⟨rfl, hb⟩
  have HB5 := Lib.hid (HB4.out.trans (hb.mono HB4.out.size))
  have HX5 := Lib.hid (HX4.out.keep hb)
  clear hb hc0 hc1 hc2
  have hc0 := HX5.out.c0
  have hc1 := HX5.out.c1
  have hc2 := HX5.out.c2
  clear C11 HB4 HX4
  go_wp2_with fail
  refine (C12.out _).mono ?_
  rintro e w6 ⟨rfl, hb⟩
  have HB6 := Lib.hid (HB5.out.trans (hb.mono HB5.out.size))
  have HX6 := Lib.hid (HX5.out.keep hb)
  clear hb hc0 hc1 hc2
  have hc0 := HX6.out.c0
  have hc1 := HX6.out.c1
  have hc2 := HX6.out.c2
  clear C12 HB5 HX5
  go_wp2_with fail
  refine (C13.out _).mono ?_
  rintro e w7 ⟨rfl, hb⟩
  have HB7 := Lib.hid (HB6.out.trans (hb.mono HB6.out.size))
  have HX7 := Lib.hid (HX6.out.keep hb)
  clear hb hc0 hc1 hc2
  have hc0 := HX7.out.c0
  have hc1 := HX7.out.c1
  have hc2 := HX7.out.c2
  clear C13 HB6 HX6
  go_wp2_with fail
  refine (C14.out _).mono ?_
  rintro e w8 ⟨rfl, hb⟩
  have HB8 := Lib.hid (HB7.out.trans (hb.mono HB7.out.size))
  have HX8 := Lib.hid (HX7.out.keep hb)
  clear hb hc0 hc1 hc2
  have hc0 := HX8.out.c0
  have hc1 := HX8.out.c1
  have hc2 := HX8.out.c2
  clear C14 HB7 HX7
  go_wp2_with fail
  refine (C15.out _).mono ?_
  rintro e w9 ⟨rfl, hb⟩
  have HB9 := Lib.hid (HB8.out.trans (hb.mono HB8.out.size))
  have HX9 := Lib.hid (HX8.out.keep hb)
  clear hb hc0 hc1 hc2
  have hc0 := HX9.out.c0
  have hc1 := HX9.out.c1
  have hc2 := HX9.out.c2
  clear C15 HB8 HX8
  go_wp2_with fail
  refine (C16.out _).mono ?_
  rintro e w10 ⟨rfl, hb⟩
  have HB10 := Lib.hid (HB9.out.trans (hb.mono HB9.out.size))
  have HX10 := Lib.hid (HX9.out.keep hb)
  clear hb hc0 hc1 hc2
  have hc0 := HX10.out.c0
  have hc1 := HX10.out.c1
  have hc2 := HX10.out.c2
  clear C16 HB9 HX9
  go_wp2_with fail
  refine (C17.out _).mono ?_
  rintro e w11 ⟨rfl, hb⟩
  have HB11 := Lib.hid (HB10.out.trans (hb.mono HB10.out.size))
  have HX11 := Lib.hid (HX10.out.keep hb)
  clear hb hc0 hc1 hc2
  have hc0 := HX11.out.c0
  have hc1 := HX11.out.c1
  have hc2 := HX11.out.c2
  clear C17 HB10 HX10
  go_wp2_with fail
  refine (C18.out _).mono ?_
  rintro e w12 ⟨rfl, hb⟩
  have HB12 := Lib.hid (HB11.out.trans (hb.mono HB11.out.size))
  have HX12 := Lib.hid (HX11.out.keep hb)
  clear hb hc0 hc1 hc2
  have hc0 := HX12.out.c0
  have hc1 := HX12.out.c1
  have hc2 := HX12.out.c2
  clear C18 HB11 HX11
  go_wp2_with fail
  refine (C19.out _).mono ?_
  rintro e w13 ⟨rfl, hb⟩
  have HB13 := Lib.hid (HB12.out.trans (hb.mono HB12.out.size))
  have HX13 := Lib.hid (HX12.out.keep hb)
  clear hb hc0 hc1 hc2
  have hc0 := HX13.out.c0
  have hc1 := HX13.out.c1
  have hc2 := HX13.out.c2
  clear C19 HB12 HX12
  go_wp2
  go_ret
  exact ⟨rfl, HB13.out⟩
end Geo
end Go.Proofs.Ytoagfpjaaiodgaa
