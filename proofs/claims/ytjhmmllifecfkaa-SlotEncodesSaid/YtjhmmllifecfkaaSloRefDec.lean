/- The document's decoding. -/
import Derived.Test.YtjhmmllifecfkaaSloRef
namespace Go.Proofs.Ytjhmmllifecfkaa
open Go.RowKit Go.MapKept
namespace Slo
open Lin

/-- the slot, and whether there is one -/
def rv (q : Option (Nat × Nat × Nat)) : Value := .tuple #[gv q, .bool q.isSome]

theorem own_under (w : World) (t : TypeId) (o : Obj) : Own ((w.alloc (.cells #[.int .i64 0, .int .i64 0, .int .i64 0] t)).alloc o) w.heap.size 0 0 0 :=
  (owned w 0 0 0 t).keep ((Below.refl _ (w.alloc (.cells #[.int .i64 0, .int .i64 0, .int .i64 0] t))).alloc (Nat.le_refl _) o)
theorem below_two (w : World) (o o' : Obj) : Below w.heap.size w ((w.alloc o).alloc o') := by
  have hb := (Below.refl w.heap.size w).alloc (Nat.le_refl _) o
  exact hb.alloc hb.size _

set_option maxHeartbeats 2000000 in
set_option maxRecDepth 100000 in
theorem refDecode_any (w : World) (x : Nat) (hx : x < 18446744073709551616) :
    Calls Try.prog 13 #[.int .u64 (x : Int)] w fun r w' => r = .returned (rv (dec x)) ∧ Below w.heap.size w w' := by
  obtain ⟨s, hs⟩ : ∃ s, s = x % 65536 := ⟨_, rfl⟩
  obtain ⟨c, hc⟩ : ∃ c, c = x / 65536 % 65536 := ⟨_, rfl⟩
  obtain ⟨q, hq⟩ : ∃ q, q = x / 4294967296 % 65536 := ⟨_, rfl⟩
  have hs1 : s < 65536 := by omega
  have hc1 : c < 65536 := by omega
  have hq1 : q < 65536 := by omega
  have HD := Lib.hid (show dec x = if may s c (nx q) = true ∧ x = wd s c q then some (s, c, q) else none by
    unfold dec
    simp only [← hs, ← hc, ← hq])
  have HXS := Lib.hid (show (x : Int) % 65536 = (s : Int) by omega)
  have HXC := Lib.hid (show (x : Int) / 65536 % 65536 = (c : Int) by omega)
  have HXQ := Lib.hid (show (x : Int) / 4294967296 % 65536 = (q : Int) by omega)
  clear hs hc hq
  by_cases hq : q = 65535
  · subst hq
    have hbe : ((x : Int) / 4294967296 % 65536 == 65535) = true := by rw [HXQ.out]; rfl
    go_enter Try.func13, Try.ntmps13
    go_wp2_with fail
    rw [HXS.out, HXC.out]
    have HX2 := Lib.hid (own_under w 31 (.cells #[.int .i64 (s : Int), .int .i64 (c : Int), .int .i64 (-1)] 31))
    have HG2 := Lib.hid (boxed_at (w := w.alloc (.cells #[.int .i64 0, .int .i64 0, .int .i64 0] 31)) (World.size_alloc _ _) s c (-1) 31)
    have HB2 := Lib.hid (below_two w (.cells #[.int .i64 0, .int .i64 0, .int .i64 0] 31) (.cells #[.int .i64 (s : Int), .int .i64 (c : Int), .int .i64 (-1)] 31))
    clear HXS HXC HXQ hbe
    generalize (w.alloc (.cells #[.int .i64 0, .int .i64 0, .int .i64 0] 31)).alloc (.cells #[.int .i64 (s : Int), .int .i64 (c : Int), .int .i64 (-1)] 31) = w2 at *
    cases hmay : may s c (nx 65535) with
    | false =>
      have HNO := Lib.hid (show dec x = none by rw [HD.out, if_neg (fun h => by rw [hmay] at h; simp at h)])
      refine (refEncode_no _ s c (-1) (by rw [← nx_none]; exact hmay)).mono ?_
      rintro e w3 ⟨rfl, hb3⟩
      have HX3 := Lib.hid (HX2.out.keep hb3)
      have HB3 := Lib.hid (HB2.out.trans (hb3.mono HB2.out.size))
      have hc0 := HX3.out.box.c0
      have hc1 := HX3.out.box.c1
      have hc2 := HX3.out.box.c2
      have hf0 := HX3.out.f 0
      have hf1 := HX3.out.f 1
      have hf2 := HX3.out.f 2
      clear hb3 hmay HX2 HB2 HD HG2
      go_wp2
      rw [HNO.out]
      refine bodyPost_ret (v := rv none) ?_ rfl ⟨rfl, ?_⟩
      · simp [results, Try.results13, go_sem, rv, gv, hc0, hc1, hc2]
      · exact ((HB3.out.setCell (Nat.le_refl _) _).setCell (Nat.le_refl _) _).setCell (Nat.le_refl _) _
    | true =>
      refine (refEncode_yes _ s c 65535 (-1) (nx_none).symm hmay).mono ?_
      rintro e w3 ⟨rfl, hb3⟩
      have HX3 := Lib.hid (HX2.out.keep hb3)
      have HG3 := Lib.hid (HG2.out.keep hb3)
      have HB3 := Lib.hid (HB2.out.trans (hb3.mono HB2.out.size))
      have hc0 := HX3.out.box.c0
      have hc1 := HX3.out.box.c1
      have hc2 := HX3.out.box.c2
      have hf0 := HX3.out.f 0
      have hf1 := HX3.out.f 1
      have hf2 := HX3.out.f 2
      have hg0 := HG3.out.c0
      have hg1 := HG3.out.c1
      have hg2 := HG3.out.c2
      have HM := Lib.hid hmay
      clear hb3 hmay HX2 HB2 HG2
      by_cases hls : x = wd s c 65535
      · have HNO := Lib.hid (show dec x = some (s, c, 65535) by rw [HD.out, if_pos ⟨HM.out, hls⟩])
        have hbe : (((wd s c 65535 : Nat) : Int) != ((x : Nat) : Int)) = false := by rw [← hls]; simp
        clear hls HD HM
        go_wp2
        rw [HNO.out]
        refine bodyPost_ret (v := rv (some (s, c, 65535))) ?_ rfl ⟨rfl, ?_⟩
        · simp [results, Try.results13, go_sem, rv, gv, hc0, hc1, hc2, nx_none]
        · exact ((HB3.out.setCell (Nat.le_refl _) _).setCell (Nat.le_refl _) _).setCell (Nat.le_refl _) _
      · have HNO := Lib.hid (show dec x = none by rw [HD.out, if_neg (fun h => hls h.2)])
        have hbe : (((wd s c 65535 : Nat) : Int) != ((x : Nat) : Int)) = true := by simp; omega
        clear hls HD HM
        go_wp2
        rw [HNO.out]
        refine bodyPost_ret (v := rv none) ?_ rfl ⟨rfl, ?_⟩
        · simp [results, Try.results13, go_sem, rv, gv, hc0, hc1, hc2]
        · exact ((HB3.out.setCell (Nat.le_refl _) _).setCell (Nat.le_refl _) _).setCell (Nat.le_refl _) _
  · have hbe : ((x : Int) / 4294967296 % 65536 == 65535) = false := by rw [HXQ.out]; simp; omega
    have HNX := Lib.hid (nx_some hq)
    clear hq
    go_enter Try.func13, Try.ntmps13
    go_wp2_with fail
    rw [HXS.out, HXC.out, HXQ.out]
    have HX2 := Lib.hid (own_under w 31 (.cells #[.int .i64 (s : Int), .int .i64 (c : Int), .int .i64 (q : Int)] 31))
    have HG2 := Lib.hid (boxed_at (w := w.alloc (.cells #[.int .i64 0, .int .i64 0, .int .i64 0] 31)) (World.size_alloc _ _) s c (q : Int) 31)
    have HB2 := Lib.hid (below_two w (.cells #[.int .i64 0, .int .i64 0, .int .i64 0] 31) (.cells #[.int .i64 (s : Int), .int .i64 (c : Int), .int .i64 (q : Int)] 31))
    clear HXS HXC HXQ hbe
    generalize (w.alloc (.cells #[.int .i64 0, .int .i64 0, .int .i64 0] 31)).alloc (.cells #[.int .i64 (s : Int), .int .i64 (c : Int), .int .i64 (q : Int)] 31) = w2 at *
    cases hmay : may s c (nx q) with
    | false =>
      have HNO := Lib.hid (show dec x = none by rw [HD.out, if_neg (fun h => by rw [hmay] at h; simp at h)])
      refine (refEncode_no _ s c (q : Int) (by rw [← HNX.out]; exact hmay)).mono ?_
      rintro e w3 ⟨rfl, hb3⟩
      have HX3 := Lib.hid (HX2.out.keep hb3)
      have HB3 := Lib.hid (HB2.out.trans (hb3.mono HB2.out.size))
      have hc0 := HX3.out.box.c0
      have hc1 := HX3.out.box.c1
      have hc2 := HX3.out.box.c2
      have hf0 := HX3.out.f 0
      have hf1 := HX3.out.f 1
      have hf2 := HX3.out.f 2
      clear hb3 hmay HX2 HB2 HD HG2
      go_wp2
      rw [HNO.out]
      refine bodyPost_ret (v := rv none) ?_ rfl ⟨rfl, ?_⟩
      · simp [results, Try.results13, go_sem, rv, gv, hc0, hc1, hc2]
      · exact ((HB3.out.setCell (Nat.le_refl _) _).setCell (Nat.le_refl _) _).setCell (Nat.le_refl _) _
    | true =>
      refine (refEncode_yes _ s c q (q : Int) (HNX.out).symm hmay).mono ?_
      rintro e w3 ⟨rfl, hb3⟩
      have HX3 := Lib.hid (HX2.out.keep hb3)
      have HG3 := Lib.hid (HG2.out.keep hb3)
      have HB3 := Lib.hid (HB2.out.trans (hb3.mono HB2.out.size))
      have hc0 := HX3.out.box.c0
      have hc1 := HX3.out.box.c1
      have hc2 := HX3.out.box.c2
      have hf0 := HX3.out.f 0
      have hf1 := HX3.out.f 1
      have hf2 := HX3.out.f 2
      have hg0 := HG3.out.c0
      have hg1 := HG3.out.c1
      have hg2 := HG3.out.c2
      have HM := Lib.hid hmay
      clear hb3 hmay HX2 HB2 HG2
      by_cases hls : x = wd s c q
      · have HNO := Lib.hid (show dec x = some (s, c, q) by rw [HD.out, if_pos ⟨HM.out, hls⟩])
        have hbe : (((wd s c q : Nat) : Int) != ((x : Nat) : Int)) = false := by rw [← hls]; simp
        clear hls HD HM
        go_wp2
        rw [HNO.out]
        refine bodyPost_ret (v := rv (some (s, c, q))) ?_ rfl ⟨rfl, ?_⟩
        · simp [results, Try.results13, go_sem, rv, gv, hc0, hc1, hc2, HNX.out]
        · exact ((HB3.out.setCell (Nat.le_refl _) _).setCell (Nat.le_refl _) _).setCell (Nat.le_refl _) _
      · have HNO := Lib.hid (show dec x = none by rw [HD.out, if_neg (fun h => hls h.2)])
        have hbe : (((wd s c q : Nat) : Int) != ((x : Nat) : Int)) = true := by simp; omega
        clear hls HD HM
        go_wp2
        rw [HNO.out]
        refine bodyPost_ret (v := rv none) ?_ rfl ⟨rfl, ?_⟩
        · simp [results, Try.results13, go_sem, rv, gv, hc0, hc1, hc2]
        · exact ((HB3.out.setCell (Nat.le_refl _) _).setCell (Nat.le_refl _) _).setCell (Nat.le_refl _) _
end Slo
end Go.Proofs.Ytjhmmllifecfkaa
