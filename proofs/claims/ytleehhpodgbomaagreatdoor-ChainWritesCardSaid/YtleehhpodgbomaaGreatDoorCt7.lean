/- Texts laid together: SloRefDec, SloLives, LinFour, RecMath, RecMay, RecEncode, RecDecode, RecRef, RecRefDec, RecLives, PackRefWords, VolMath, VolDev, VolOf, VolLay, VolMed, VolLin, VolWrite, VolVol, VolRaw. -/
import Derived.Test.YtleehhpodgbomaaGreatDoorCt6
import Derived.Test.YtleehhpodgbomaaGreatDoorCt3
import Derived.Test.YtleehhpodgbomaaGreatDoorRows
import Derived.WalkKit
import Derived.ProofKit
import Derived.Lib.Hide
import Derived.Lib.SlicesCompact
import Derived.Test.YtleehhpodgbomaaGreatDoorCt1
import Derived.Test.YtleehhpodgbomaaGreatDoorCt5
import Derived.Shelf.SlicesG.CompactI
import Derived.Ground.SlgnProg
import Derived.Test.YtleehhpodgbomaaGreatDoorProg
import Derived.Lib.OwnBridge
import Derived.Test.YtleehhpodgbomaaGreatDoorCt2
import Derived.Test.YtleehhpodgbomaaGreatDoorCt4
/- The document's decoding. -/
namespace Go.Proofs.YtleehhpodgbomaaGreatDoor
open Go.RowKit Go.MapKept
namespace Slo
open Lin

/-- the slot, and whether there is one -/
def rv (q : Option (Nat × Nat × Nat)) : Value := .tuple #[gv q, .bool q.isSome]

theorem own_under (w : World) (t : TypeId) (o : Obj) : Own ((w.alloc (.cells #[.int .i64 0, .int .i64 0, .int .i64 0] t)).alloc o) w.heap.size 0 0 0 :=
  (owned w 0 0 0 t).keep ((Below.refl _ (w.alloc (.cells #[.int .i64 0, .int .i64 0, .int .i64 0] t))).alloc (Nat.le_refl _) o)
theorem below_two (w : World) (o o' : Obj) : Below w.heap.size w ((w.alloc o).alloc o') := by
  have hb := (Below.refl w.heap.size w).alloc (Nat.le_refl _) o
  exact hb.alloc hb.size _

set_option maxHeartbeats 2000000 in
set_option maxRecDepth 100000 in
theorem refDecode_any (w : World) (x : Nat) (hx : x < 18446744073709551616) :
    Calls Tryz.prog 58 #[.int .u64 (x : Int)] w fun r w' => r = .returned (rv (dec x)) ∧ Below w.heap.size w w' := by
  obtain ⟨s, hs⟩ : ∃ s, s = x % 65536 := ⟨_, rfl⟩
  obtain ⟨c, hc⟩ : ∃ c, c = x / 65536 % 65536 := ⟨_, rfl⟩
  obtain ⟨q, hq⟩ : ∃ q, q = x / 4294967296 % 65536 := ⟨_, rfl⟩
  have hs1 : s < 65536 := by omega
  have hc1 : c < 65536 := by omega
  have hq1 : q < 65536 := by omega
  have HD := Lib.hid (show dec x = if may s c (nx q) = true ∧ x = wd s c q then some (s, c, q) else none by
    unfold dec
    simp only [← hs, ← hc, ← hq])
  have HXS := Lib.hid (show (x : Int) % 65536 = (s : Int) by omega)
  have HXC := Lib.hid (show (x : Int) / 65536 % 65536 = (c : Int) by omega)
  have HXQ := Lib.hid (show (x : Int) / 4294967296 % 65536 = (q : Int) by omega)
  clear hs hc hq
  by_cases hq : q = 65535
  · subst hq
    have hbe : ((x : Int) / 4294967296 % 65536 == 65535) = true := by rw [HXQ.out]; rfl
    go_enter Tryz.func58, Tryz.ntmps58
    go_wp2_with fail
    rw [HXS.out, HXC.out]
    have HX2 := Lib.hid (own_under w 57 (.cells #[.int .i64 (s : Int), .int .i64 (c : Int), .int .i64 (-1)] 57))
    have HG2 := Lib.hid (boxed_at (w := w.alloc (.cells #[.int .i64 0, .int .i64 0, .int .i64 0] 57)) (World.size_alloc _ _) s c (-1) 57)
    have HB2 := Lib.hid (below_two w (.cells #[.int .i64 0, .int .i64 0, .int .i64 0] 57) (.cells #[.int .i64 (s : Int), .int .i64 (c : Int), .int .i64 (-1)] 57))
    clear HXS HXC HXQ hbe
    generalize (w.alloc (.cells #[.int .i64 0, .int .i64 0, .int .i64 0] 57)).alloc (.cells #[.int .i64 (s : Int), .int .i64 (c : Int), .int .i64 (-1)] 57) = w2 at *
    cases hmay : may s c (nx 65535) with
    | false =>
      have HNO := Lib.hid (show dec x = none by rw [HD.out, if_neg (fun h => by rw [hmay] at h; simp at h)])
      refine (refEncode_no _ s c (-1) (by rw [← nx_none]; exact hmay)).mono ?_
      rintro e w3 ⟨rfl, hb3⟩
      have HX3 := Lib.hid (HX2.out.keep hb3)
      have HB3 := Lib.hid (HB2.out.trans (hb3.mono HB2.out.size))
      have hc0 := HX3.out.box.c0
      have hc1 := HX3.out.box.c1
      have hc2 := HX3.out.box.c2
      have hf0 := HX3.out.f 0
      have hf1 := HX3.out.f 1
      have hf2 := HX3.out.f 2
      clear hb3 hmay HX2 HB2 HD HG2
      go_wp2
      rw [HNO.out]
      refine bodyPost_ret (v := rv none) ?_ rfl ⟨rfl, ?_⟩
      · simp [results, Tryz.results58, go_sem, rv, gv, hc0, hc1, hc2]
      · exact ((HB3.out.setCell (Nat.le_refl _) _).setCell (Nat.le_refl _) _).setCell (Nat.le_refl _) _
    | true =>
      refine (refEncode_yes _ s c 65535 (-1) (nx_none).symm hmay).mono ?_
      rintro e w3 ⟨rfl, hb3⟩
      have HX3 := Lib.hid (HX2.out.keep hb3)
      have HG3 := Lib.hid (HG2.out.keep hb3)
      have HB3 := Lib.hid (HB2.out.trans (hb3.mono HB2.out.size))
      have hc0 := HX3.out.box.c0
      have hc1 := HX3.out.box.c1
      have hc2 := HX3.out.box.c2
      have hf0 := HX3.out.f 0
      have hf1 := HX3.out.f 1
      have hf2 := HX3.out.f 2
      have hg0 := HG3.out.c0
      have hg1 := HG3.out.c1
      have hg2 := HG3.out.c2
      have HM := Lib.hid hmay
      clear hb3 hmay HX2 HB2 HG2
      by_cases hls : x = wd s c 65535
      · have HNO := Lib.hid (show dec x = some (s, c, 65535) by rw [HD.out, if_pos ⟨HM.out, hls⟩])
        have hbe : (((wd s c 65535 : Nat) : Int) != ((x : Nat) : Int)) = false := by rw [← hls]; simp
        clear hls HD HM
        go_wp2
        rw [HNO.out]
        refine bodyPost_ret (v := rv (some (s, c, 65535))) ?_ rfl ⟨rfl, ?_⟩
        · simp [results, Tryz.results58, go_sem, rv, gv, hc0, hc1, hc2, nx_none]
        · exact ((HB3.out.setCell (Nat.le_refl _) _).setCell (Nat.le_refl _) _).setCell (Nat.le_refl _) _
      · have HNO := Lib.hid (show dec x = none by rw [HD.out, if_neg (fun h => hls h.2)])
        have hbe : (((wd s c 65535 : Nat) : Int) != ((x : Nat) : Int)) = true := by simp; omega
        clear hls HD HM
        go_wp2
        rw [HNO.out]
        refine bodyPost_ret (v := rv none) ?_ rfl ⟨rfl, ?_⟩
        · simp [results, Tryz.results58, go_sem, rv, gv, hc0, hc1, hc2]
        · exact ((HB3.out.setCell (Nat.le_refl _) _).setCell (Nat.le_refl _) _).setCell (Nat.le_refl _) _
  · have hbe : ((x : Int) / 4294967296 % 65536 == 65535) = false := by rw [HXQ.out]; simp; omega
    have HNX := Lib.hid (nx_some hq)
    clear hq
    go_enter Tryz.func58, Tryz.ntmps58
    go_wp2_with fail
    rw [HXS.out, HXC.out, HXQ.out]
    have HX2 := Lib.hid (own_under w 57 (.cells #[.int .i64 (s : Int), .int .i64 (c : Int), .int .i64 (q : Int)] 57))
    have HG2 := Lib.hid (boxed_at (w := w.alloc (.cells #[.int .i64 0, .int .i64 0, .int .i64 0] 57)) (World.size_alloc _ _) s c (q : Int) 57)
    have HB2 := Lib.hid (below_two w (.cells #[.int .i64 0, .int .i64 0, .int .i64 0] 57) (.cells #[.int .i64 (s : Int), .int .i64 (c : Int), .int .i64 (q : Int)] 57))
    clear HXS HXC HXQ hbe
    generalize (w.alloc (.cells #[.int .i64 0, .int .i64 0, .int .i64 0] 57)).alloc (.cells #[.int .i64 (s : Int), .int .i64 (c : Int), .int .i64 (q : Int)] 57) = w2 at *
    cases hmay : may s c (nx q) with
    | false =>
      have HNO := Lib.hid (show dec x = none by rw [HD.out, if_neg (fun h => by rw [hmay] at h; simp at h)])
      refine (refEncode_no _ s c (q : Int) (by rw [← HNX.out]; exact hmay)).mono ?_
      rintro e w3 ⟨rfl, hb3⟩
      have HX3 := Lib.hid (HX2.out.keep hb3)
      have HB3 := Lib.hid (HB2.out.trans (hb3.mono HB2.out.size))
      have hc0 := HX3.out.box.c0
      have hc1 := HX3.out.box.c1
      have hc2 := HX3.out.box.c2
      have hf0 := HX3.out.f 0
      have hf1 := HX3.out.f 1
      have hf2 := HX3.out.f 2
      clear hb3 hmay HX2 HB2 HD HG2
      go_wp2
      rw [HNO.out]
      refine bodyPost_ret (v := rv none) ?_ rfl ⟨rfl, ?_⟩
      · simp [results, Tryz.results58, go_sem, rv, gv, hc0, hc1, hc2]
      · exact ((HB3.out.setCell (Nat.le_refl _) _).setCell (Nat.le_refl _) _).setCell (Nat.le_refl _) _
    | true =>
      refine (refEncode_yes _ s c q (q : Int) (HNX.out).symm hmay).mono ?_
      rintro e w3 ⟨rfl, hb3⟩
      have HX3 := Lib.hid (HX2.out.keep hb3)
      have HG3 := Lib.hid (HG2.out.keep hb3)
      have HB3 := Lib.hid (HB2.out.trans (hb3.mono HB2.out.size))
      have hc0 := HX3.out.box.c0
      have hc1 := HX3.out.box.c1
      have hc2 := HX3.out.box.c2
      have hf0 := HX3.out.f 0
      have hf1 := HX3.out.f 1
      have hf2 := HX3.out.f 2
      have hg0 := HG3.out.c0
      have hg1 := HG3.out.c1
      have hg2 := HG3.out.c2
      have HM := Lib.hid hmay
      clear hb3 hmay HX2 HB2 HG2
      by_cases hls : x = wd s c q
      · have HNO := Lib.hid (show dec x = some (s, c, q) by rw [HD.out, if_pos ⟨HM.out, hls⟩])
        have hbe : (((wd s c q : Nat) : Int) != ((x : Nat) : Int)) = false := by rw [← hls]; simp
        clear hls HD HM
        go_wp2
        rw [HNO.out]
        refine bodyPost_ret (v := rv (some (s, c, q))) ?_ rfl ⟨rfl, ?_⟩
        · simp [results, Tryz.results58, go_sem, rv, gv, hc0, hc1, hc2, HNX.out]
        · exact ((HB3.out.setCell (Nat.le_refl _) _).setCell (Nat.le_refl _) _).setCell (Nat.le_refl _) _
      · have HNO := Lib.hid (show dec x = none by rw [HD.out, if_neg (fun h => hls h.2)])
        have hbe : (((wd s c q : Nat) : Int) != ((x : Nat) : Int)) = true := by simp; omega
        clear hls HD HM
        go_wp2
        rw [HNO.out]
        refine bodyPost_ret (v := rv none) ?_ rfl ⟨rfl, ?_⟩
        · simp [results, Tryz.results58, go_sem, rv, gv, hc0, hc1, hc2]
        · exact ((HB3.out.setCell (Nat.le_refl _) _).setCell (Nat.le_refl _) _).setCell (Nat.le_refl _) _
end Slo
end Go.Proofs.YtleehhpodgbomaaGreatDoor
/- The chapter's example; SlotEncodes, walked. -/
namespace Go.Proofs.YtleehhpodgbomaaGreatDoor
open Go.RowKit Go.MapKept
namespace Slo
open Lin

theorem may_ex : may ((1 : Nat) : Int) ((2 : Nat) : Int) (nx 3) = true := by decide
theorem and_ex : bits .and .u64 ((wd 1 2 3 : Nat) : Int) 281474976710655 = 12885032961 := by decide +kernel

set_option maxHeartbeats 1000000 in
theorem lives_any (w : World) : Calls Tryz.prog 49 #[] w fun r w' => r = .returned (.bool true) ∧ Below w.heap.size w w' := by
  have he : Calls Tryz.prog 41 #[.agg #[.int .i64 1, .int .i64 2, .int .i64 3]] w fun r w' => r = .returned (.tuple #[.int .u64 (wd 1 2 3 : Nat), .int .i64 0]) ∧ Below w.heap.size w w' := encode_yes w 1 2 3 3 (by decide) may_ex
  have HE := Lib.hid he
  have H2 := Lib.hid Crc.lives_any
  have H3 := Lib.hid Pack.lives_any
  have hx := and_ex
  generalize wd 1 2 3 = x at *
  clear he
  go_enter Tryz.func49, Tryz.ntmps49
  go_wp2_with fail
  refine HE.out.mono ?_
  rintro e w0 ⟨rfl, hb⟩
  have HB1 := Lib.hid hb
  clear hb HE
  go_wp2_with fail
  refine (H2.out _).mono ?_
  rintro e w2 ⟨rfl, hb⟩
  have HB2 := Lib.hid (HB1.out.trans (hb.mono HB1.out.size))
  clear hb HB1
  go_wp2_with fail
  refine (H3.out _).mono ?_
  rintro e w3 ⟨rfl, hb⟩
  have HB3 := Lib.hid (HB2.out.trans (hb.mono HB2.out.size))
  clear hb HB2
  go_wp2
  go_ret
  exact ⟨rfl, HB3.out⟩

end Slo
end Go.Proofs.YtleehhpodgbomaaGreatDoor
/- Memory of four ints: in a block, of the call's own, beside a row of words; four fields, four widths. -/
namespace Go.Proofs.YtleehhpodgbomaaGreatDoor
open Go.RowKit Go.MapKept
namespace Lin

/-- four ints lie in block b -/
structure Box4 (w : World) (b : Nat) (n m s r : Int) : Prop where
  lt : b < w.heap.size
  c0 : w.cell? ⟨b, 0, none⟩ = some (.int .i64 n)
  c1 : w.cell? ⟨b, 1, none⟩ = some (.int .i64 m)
  c2 : w.cell? ⟨b, 2, none⟩ = some (.int .i64 s)
  c3 : w.cell? ⟨b, 3, none⟩ = some (.int .i64 r)
theorem Box4.keep {w w' : World} {b : Nat} {n m s r : Int} (h : Box4 w b n m s r) (hb : Below w.heap.size w w') : Box4 w' b n m s r :=
  ⟨Nat.lt_of_lt_of_le h.lt hb.size, (hb.cell (p := ⟨b, 0, none⟩) h.lt).trans h.c0, (hb.cell (p := ⟨b, 1, none⟩) h.lt).trans h.c1, (hb.cell (p := ⟨b, 2, none⟩) h.lt).trans h.c2, (hb.cell (p := ⟨b, 3, none⟩) h.lt).trans h.c3⟩
theorem Box4.drew {w : World} {b : Nat} {n m s r : Int} (h : Box4 w b n m s r) : Box4 w.drew b n m s r := ⟨h.lt, h.c0, h.c1, h.c2, h.c3⟩
theorem Box4.drewN {w : World} {b : Nat} {n m s r : Int} (h : Box4 w b n m s r) (k : Nat) : Box4 (w.drewN k) b n m s r := ⟨h.lt, h.c0, h.c1, h.c2, h.c3⟩
theorem boxed4 (w : World) (n m s r : Int) (t : TypeId) : Box4 (w.alloc (.cells #[.int .i64 n, .int .i64 m, .int .i64 s, .int .i64 r] t)) w.heap.size n m s r :=
  ⟨by simp, World.cell?_alloc_mark w _ t _ 0, World.cell?_alloc_mark w _ t _ 1, World.cell?_alloc_mark w _ t _ 2, World.cell?_alloc_mark w _ t _ 3⟩
theorem boxed4_at {w : World} {k : Nat} (hk : w.heap.size = k) (n m s r : Int) (t : TypeId) : Box4 (w.alloc (.cells #[.int .i64 n, .int .i64 m, .int .i64 s, .int .i64 r] t)) k n m s r := by
  subst hk
  exact boxed4 w n m s r t

/-- four ints of the call's own in block b -/
structure Own4 (w : World) (b : Nat) (n m s r : Int) : Prop where
  box : Box4 w b n m s r
  f : ∀ o, w.frozen? ⟨b, o, none⟩ = false
theorem Own4.keep {w w' : World} {b : Nat} {n m s r : Int} (h : Own4 w b n m s r) (hb : Below w.heap.size w w') : Own4 w' b n m s r :=
  ⟨h.box.keep hb, fun o => (hb.frozen (p := ⟨b, o, none⟩) h.box.lt).trans (h.f o)⟩
theorem Own4.drew {w : World} {b : Nat} {n m s r : Int} (h : Own4 w b n m s r) : Own4 w.drew b n m s r := ⟨h.box.drew, h.f⟩
theorem Own4.drewN {w : World} {b : Nat} {n m s r : Int} (h : Own4 w b n m s r) (k : Nat) : Own4 (w.drewN k) b n m s r := ⟨h.box.drewN k, h.f⟩
theorem owned4 (w : World) (n m s r : Int) (t : TypeId) : Own4 (w.alloc (.cells #[.int .i64 n, .int .i64 m, .int .i64 s, .int .i64 r] t)) w.heap.size n m s r :=
  ⟨boxed4 w n m s r t, fun o => (World.rowIs_alloc w #[.int .i64 n, .int .i64 m, .int .i64 s, .int .i64 r] t (fun i => if i = 0 then .int .i64 n else if i = 1 then .int .i64 m else if i = 2 then .int .i64 s else .int .i64 r) (fun i hi => by
    have : i < 4 := hi
    match i, this with
    | 0, _ => rfl
    | 1, _ => rfl
    | 2, _ => rfl
    | 3, _ => rfl)).frozen o⟩

/-- four ints in block b, the words in block g; what was there ahead of N is as it was -/
structure En4 (w0 : World) (N b g : Nat) (n m s r : Int) (l : List Nat) (w : World) : Prop where
  box : Box4 w b n m s r
  row : w.rowIs g 71 8 (rowOf l)
  bg : b ≠ g
  below : Below N w0 w
  nN : N ≤ g
theorem En4.keep {w0 w w' : World} {N b g : Nat} {n m s r : Int} {l : List Nat} (h : En4 w0 N b g n m s r l w) (hb : Below w.heap.size w w') (hN : N ≤ w.heap.size) : En4 w0 N b g n m s r l w' :=
  ⟨h.box.keep hb, h.row.of_block (hb.block _ h.row.lt), h.bg, h.below.trans (hb.mono hN), h.nN⟩
theorem En4.drew {w0 w : World} {N b g : Nat} {n m s r : Int} {l : List Nat} (h : En4 w0 N b g n m s r l w) : En4 w0 N b g n m s r l w.drew :=
  ⟨h.box.drew, h.row.drew, h.bg, h.below.drew, h.nN⟩
theorem En4.set {w0 w : World} {N b g : Nat} {n m s r : Int} {l l' : List Nat} (h : En4 w0 N b g n m s r l w) (i x : Nat) (e : ∀ j, j < 8 → (if j = i then x else l[j]?.getD 0) = l'[j]?.getD 0) : En4 w0 N b g n m s r l' (w.setCell ⟨g, i, none⟩ (.int .u64 (x : Int))) :=
  ⟨⟨by simpa using h.box.lt, (cell_set_other h.bg _).trans h.box.c0, (cell_set_other h.bg _).trans h.box.c1, (cell_set_other h.bg _).trans h.box.c2, (cell_set_other h.bg _).trans h.box.c3⟩,
   (h.row.set i (.int .u64 (x : Int))).congr (fun j hj => by
    have := e j hj
    unfold rowOf
    rw [← this]
    split <;> rfl), h.bg, h.below.setCell h.nN _, h.nN⟩

theorem fds_four (w : World) {n m s r : Nat} (hn : n < 65536) (hm : m < 65536) (hs : s < 65536) (hr : r < 65536) : Pack.Fds (w.alloc (.cells #[.int .i64 16, .int .u64 (n : Int), .int .i64 16, .int .u64 (m : Int), .int .i64 16, .int .u64 (s : Int), .int .i64 16, .int .u64 (r : Int)] 126)) (some ⟨w.heap.size, 0, none⟩) [⟨16, n⟩, ⟨16, m⟩, ⟨16, s⟩, ⟨16, r⟩] :=
  ⟨fun f hf => by
    simp only [List.mem_cons, List.not_mem_nil, or_false] at hf
    rcases hf with rfl | rfl | rfl | rfl <;> exact ⟨by simp only; omega, by simp only; omega, by simp only; omega⟩, by simp, fun j hj => by
    have : j < 4 := hj
    match j, this with
    | 0, _ => exact ⟨w.heap.size, 0, rfl, by simp, Pack.alloc_cell _ _ _ _, Pack.alloc_cell _ _ _ _⟩
    | 1, _ => exact ⟨w.heap.size, 0, rfl, by simp, Pack.alloc_cell _ _ _ _, Pack.alloc_cell _ _ _ _⟩
    | 2, _ => exact ⟨w.heap.size, 0, rfl, by simp, Pack.alloc_cell _ _ _ _, Pack.alloc_cell _ _ _ _⟩
    | 3, _ => exact ⟨w.heap.size, 0, rfl, by simp, Pack.alloc_cell _ _ _ _, Pack.alloc_cell _ _ _ _⟩⟩

theorem nts_four (w : World) : Pack.Nts (w.alloc (.cells #[.int .i64 16, .int .i64 16, .int .i64 16, .int .i64 16] 3)) (some ⟨w.heap.size, 0, none⟩) [16, 16, 16, 16] :=
  ⟨fun f hf => by
    obtain rfl : f = 16 := by simpa using hf
    exact ⟨by decide, by decide⟩, by decide, fun j hj => by
    have : j < 4 := hj
    match j, this with
    | 0, _ => exact ⟨w.heap.size, 0, rfl, by simp, Pack.alloc_cell _ _ _ _⟩
    | 1, _ => exact ⟨w.heap.size, 0, rfl, by simp, Pack.alloc_cell _ _ _ _⟩
    | 2, _ => exact ⟨w.heap.size, 0, rfl, by simp, Pack.alloc_cell _ _ _ _⟩
    | 3, _ => exact ⟨w.heap.size, 0, rfl, by simp, Pack.alloc_cell _ _ _ _⟩⟩
end Lin
end Go.Proofs.YtleehhpodgbomaaGreatDoor
/- A record's line as a list of words, whether a record may be, and whose a list is. -/
namespace Go.Proofs.YtleehhpodgbomaaGreatDoor
open Go.RowKit Go.MapKept
namespace Rec
open Lin

/-- it may be -/
def May (s f t c : Int) : Prop := (0 ≤ s ∧ s ≤ 65533) ∧ (0 ≤ f ∧ f ≤ 65533) ∧ (0 ≤ t ∧ t ≤ 65533) ∧ (1 ≤ c ∧ c ≤ 65534)
instance (s f t c : Int) : Decidable (May s f t c) := by unfold May; infer_instance
def may (s f t c : Int) : Bool := decide (May s f t c)

/-- the first word -/
def nums (s f t : Nat) : Nat := 1 + 65536 * s + 4294967296 * f + 281474976710656 * t
/-- the words ahead of the sum -/
def front (s f t c : Nat) : List Nat := [nums s f t, c, 0, 0, 0, 0, 0]
/-- their sum -/
def sum (s f t c : Nat) : Nat := Crc.S32 (Crc.wflat (front s f t c))
/-- the empty line -/
def zero : List Nat := [0, 0, 0, 0, 0, 0, 0, 0]
/-- a record's line -/
def ln (s f t c : Nat) : List Nat := [nums s f t, c, 0, 0, 0, 0, 0, sum s f t c]

theorem ln_len (s f t c : Nat) : (ln s f t c).length = 8 := rfl
theorem front_len (s f t c : Nat) : (front s f t c).length = 7 := rfl

theorem nums_lt {s f t : Nat} (hs : s < 65536) (hf : f < 65536) (ht : t < 65536) : nums s f t < 18446744073709551616 := by unfold nums; omega
theorem sum_lt (s f t c : Nat) : sum s f t c < 4294967296 := s32_lt _
theorem nums_pos (s f t : Nat) : nums s f t ≠ 0 := by unfold nums; omega
theorem nums_get {s f t : Nat} (hs : s < 65536) (hf : f < 65536) (_ht : t < 65536) : nums s f t / 65536 % 65536 = s ∧ nums s f t / 4294967296 % 65536 = f ∧ nums s f t / 281474976710656 = t := by
  unfold nums
  omega

theorem front_u64 {s f t c : Nat} (hs : s < 65536) (hf : f < 65536) (ht : t < 65536) (hc : c < 18446744073709551616) : ∀ x ∈ front s f t c, x < 18446744073709551616 := by
  intro x hx
  have h1 := nums_lt hs hf ht
  simp only [front, List.mem_cons, List.not_mem_nil, or_false] at hx
  rcases hx with rfl | rfl | rfl | rfl | rfl | rfl | rfl <;> omega
theorem full_u64 {s f t c : Nat} (hs : s < 65536) (hf : f < 65536) (ht : t < 65536) (hc : c < 18446744073709551616) : ∀ x ∈ ln s f t c, x < 18446744073709551616 := by
  intro x hx
  have h1 := nums_lt hs hf ht
  have h2 := sum_lt s f t c
  simp only [ln, List.mem_cons, List.not_mem_nil, or_false] at hx
  rcases hx with rfl | rfl | rfl | rfl | rfl | rfl | rfl | rfl <;> omega
theorem zero_u64 : ∀ x ∈ zero, x < 18446744073709551616 := by decide

/-- the numbers' bounds -/
theorem may_lt {s f t c : Nat} (h : may s f t c = true) : s ≤ 65533 ∧ f ≤ 65533 ∧ t ≤ 65533 ∧ 1 ≤ c ∧ c ≤ 65534 := by
  have h := of_decide_eq_true h
  unfold May at h
  omega
theorem may_nat {s f t c : Int} (e : may s f t c = true) : ∃ s' f' t' c' : Nat, s = (s' : Int) ∧ f = (f' : Int) ∧ t = (t' : Int) ∧ c = (c' : Int) := by
  have e := of_decide_eq_true e
  unfold May at e
  obtain ⟨s, rfl⟩ := Int.eq_ofNat_of_zero_le (show 0 ≤ s by omega)
  obtain ⟨f, rfl⟩ := Int.eq_ofNat_of_zero_le (show 0 ≤ f by omega)
  obtain ⟨t, rfl⟩ := Int.eq_ofNat_of_zero_le (show 0 ≤ t by omega)
  obtain ⟨c, rfl⟩ := Int.eq_ofNat_of_zero_le (show 0 ≤ c by omega)
  exact ⟨s, f, t, c, rfl, rfl, rfl, rfl⟩

theorem ln_u64 {s f t c : Nat} (h : may s f t c = true) : ∀ x ∈ ln s f t c, x < 18446744073709551616 := by
  obtain ⟨h1, h2, h3, h4, h5⟩ := may_lt h
  exact full_u64 (by omega) (by omega) (by omega) (by omega)

theorem ln_zero (s f t c : Nat) : ln s f t c ≠ zero := by
  intro h
  unfold ln zero at h
  injection h with h _
  exact nums_pos s f t h

theorem pk_nums {s f t : Nat} (hs : s < 65536) (hf : f < 65536) (ht : t < 65536) : Pack.pk 0 0 [⟨16, 1⟩, ⟨16, s⟩, ⟨16, f⟩, ⟨16, t⟩] = some (nums s f t, 64) := by
  unfold nums
  simp [Pack.pk, hs, hf, ht]
  omega

theorem split_nums {x : Nat} (hx : x < 18446744073709551616) : Pack.split x [16, 16, 16, 16] = some [x % 65536, x / 65536 % 65536, x / 4294967296 % 65536, x / 281474976710656] := by
  have h : Pack.tot 0 [16, 16, 16, 16] = some 64 := by decide
  unfold Pack.split
  rw [h]
  have e : (2 : Nat) ^ 64 = 18446744073709551616 := rfl
  have : x / 18446744073709551616 = 0 := by omega
  simp only [e, this]
  simp [Pack.sp, Nat.div_div_eq_div_mul]
  omega

/-- whose it is -/
def dec (l : List Nat) : Option (Nat × Nat × Nat × Nat) :=
  let x : Nat := l[0]?.getD 0
  let c : Nat := l[1]?.getD 0
  let s : Nat := x / 65536 % 65536
  let f : Nat := x / 4294967296 % 65536
  let t : Nat := x / 281474976710656
  if l.length = 8 ∧ may s f t c = true ∧ l = ln s f t c then some (s, f, t, c) else none

theorem dec_ln {s f t c : Nat} (h : may s f t c = true) : dec (ln s f t c) = some (s, f, t, c) := by
  obtain ⟨h1, h2, h3, h4, h5⟩ := may_lt h
  obtain ⟨e1, e2, e3⟩ := nums_get (s := s) (f := f) (t := t) (by omega) (by omega) (by omega)
  have e : (ln s f t c)[0]?.getD 0 = nums s f t := rfl
  have e' : (ln s f t c)[1]?.getD 0 = c := rfl
  unfold dec
  simp only [e, e', e1, e2, e3]
  exact if_pos ⟨ln_len s f t c, h, trivial⟩

theorem dec_some {l : List Nat} {s f t c : Nat} (h : dec l = some (s, f, t, c)) : may s f t c = true ∧ l = ln s f t c := by
  unfold dec at h
  simp only at h
  split at h
  · rename_i hc
    injection h with h
    injection h with h1 h2
    injection h2 with h2 h3
    injection h3 with h3 h4
    subst h1 h2 h3 h4
    exact hc.2
  · cases h

/-- what is no line of one that may be -/
theorem dec_none {l : List Nat} (h : ∀ s f t c : Nat, may s f t c = true → l ≠ ln s f t c) : dec l = none := by
  cases e : dec l with
  | none => rfl
  | some q =>
    obtain ⟨s, f, t, c⟩ := q
    have := dec_some e
    exact absurd this.2 (h s f t c this.1)
theorem dec_zero : dec zero = none := dec_none (fun s f t c _ e => ln_zero s f t c e.symm)

/-- what a line is: 0 empty, 1 full, 2 torn -/
def st (l : List Nat) : Int := if l = zero then 0 else if (dec l).isSome = true then 1 else 2
theorem st_zero : st zero = 0 := if_pos rfl
theorem st_some {l : List Nat} {q : Nat × Nat × Nat × Nat} (h : dec l = some q) : st l = 1 := by
  unfold st
  have h0 : l ≠ zero := by
    intro e
    rw [e, dec_zero] at h
    cases h
  rw [if_neg h0, h]
  rfl
theorem st_none {l : List Nat} (h0 : l ≠ zero) (h : dec l = none) : st l = 2 := by
  unfold st
  rw [if_neg h0, h]
  rfl
end Rec
end Go.Proofs.YtleehhpodgbomaaGreatDoor
/- within, isBlock, May, isEmpty, walked; the document's May. -/
namespace Go.Proofs.YtleehhpodgbomaaGreatDoor
open Go.RowKit Go.MapKept
namespace Rec
open Lin

theorem within_any (w : World) (n a b : Int) :
    Calls Tryz.prog 148 #[.int .i64 n, .int .i64 a, .int .i64 b] w fun e w' => e = .returned (.bool (decide (a ≤ n ∧ n ≤ b))) ∧ w = w' := by
  go_enter Tryz.func148, Tryz.ntmps148
  go_wp2
  · rename_i h
    go_ret
    exact ⟨by simp [h], rfl⟩
  · rename_i h
    go_ret
    refine ⟨?_, rfl⟩
    have : ¬ a ≤ n := by omega
    simp [this]

theorem block_any (w : World) (n : Int) :
    Calls Tryz.prog 147 #[.int .i64 n] w fun e w' => e = .returned (.bool (decide (0 ≤ n ∧ n ≤ 65533))) ∧ w = w' := by
  have HW := Lib.hid (fun w => within_any w n 0 65533)
  generalize decide (0 ≤ n ∧ n ≤ 65533) = b at *
  go_enter Tryz.func147, Tryz.ntmps147
  go_wp2_with fail
  refine (HW.out _).mono ?_
  rintro e w' ⟨rfl, rfl⟩
  go_wp2
  go_ret
  exact ⟨rfl, rfl⟩

set_option maxHeartbeats 1000000 in
theorem may_any (w : World) (s f t c : Int) :
    Calls Tryz.prog 125 #[.agg #[.int .i64 s, .int .i64 f, .int .i64 t, .int .i64 c]] w fun r w' => r = .returned (.bool (may s f t c)) ∧ Below w.heap.size w w' := by
  have HB := Lib.hid ((Below.refl w.heap.size w).alloc (Nat.le_refl _) (.cells #[.int .i64 s, .int .i64 f, .int .i64 t, .int .i64 c] 149))
  have HS := Lib.hid (fun w => block_any w s)
  have HF := Lib.hid (fun w => block_any w f)
  have HT := Lib.hid (fun w => block_any w t)
  have HC := Lib.hid (fun w => within_any w c 1 65534)
  by_cases h0 : 0 ≤ s ∧ s ≤ 65533
  · skip
    by_cases h1 : 0 ≤ f ∧ f ≤ 65533
    · skip
      by_cases h2 : 0 ≤ t ∧ t ≤ 65533
      · skip
        by_cases h3 : 1 ≤ c ∧ c ≤ 65534
        · have HE := Lib.hid (show may s f t c = true by unfold may May; exact decide_eq_true ⟨h0, h1, h2, h3⟩)
          have E0 := Lib.hid (decide_eq_true h0)
          have E1 := Lib.hid (decide_eq_true h1)
          have E2 := Lib.hid (decide_eq_true h2)
          have E3 := Lib.hid (decide_eq_true h3)
          clear h0 h1 h2 h3
          go_enter Tryz.func125, Tryz.ntmps125
          go_wp2_with fail
          refine (HS.out _).mono ?_
          rintro e w' ⟨rfl, rfl⟩
          rw [E0.out]
          go_wp2_with fail
          refine (HF.out _).mono ?_
          rintro e w' ⟨rfl, rfl⟩
          rw [E1.out]
          go_wp2_with fail
          refine (HT.out _).mono ?_
          rintro e w' ⟨rfl, rfl⟩
          rw [E2.out]
          go_wp2_with fail
          refine (HC.out _).mono ?_
          rintro e w' ⟨rfl, rfl⟩
          rw [E3.out]
          go_wp2
          go_ret
          exact ⟨by rw [HE.out]; rfl, HB.out⟩
        · have HE := Lib.hid (show may s f t c = false by unfold may May; exact decide_eq_false (fun h => h3 h.2.2.2))
          have E0 := Lib.hid (decide_eq_true h0)
          have E1 := Lib.hid (decide_eq_true h1)
          have E2 := Lib.hid (decide_eq_true h2)
          have E3 := Lib.hid (decide_eq_false h3)
          clear h0 h1 h2 h3
          go_enter Tryz.func125, Tryz.ntmps125
          go_wp2_with fail
          refine (HS.out _).mono ?_
          rintro e w' ⟨rfl, rfl⟩
          rw [E0.out]
          go_wp2_with fail
          refine (HF.out _).mono ?_
          rintro e w' ⟨rfl, rfl⟩
          rw [E1.out]
          go_wp2_with fail
          refine (HT.out _).mono ?_
          rintro e w' ⟨rfl, rfl⟩
          rw [E2.out]
          go_wp2_with fail
          refine (HC.out _).mono ?_
          rintro e w' ⟨rfl, rfl⟩
          rw [E3.out]
          go_wp2
          go_ret
          exact ⟨by rw [HE.out]; rfl, HB.out⟩
      · have HE := Lib.hid (show may s f t c = false by unfold may May; exact decide_eq_false (fun h => h2 h.2.2.1))
        have E0 := Lib.hid (decide_eq_true h0)
        have E1 := Lib.hid (decide_eq_true h1)
        have E2 := Lib.hid (decide_eq_false h2)
        clear h0 h1 h2
        go_enter Tryz.func125, Tryz.ntmps125
        go_wp2_with fail
        refine (HS.out _).mono ?_
        rintro e w' ⟨rfl, rfl⟩
        rw [E0.out]
        go_wp2_with fail
        refine (HF.out _).mono ?_
        rintro e w' ⟨rfl, rfl⟩
        rw [E1.out]
        go_wp2_with fail
        refine (HT.out _).mono ?_
        rintro e w' ⟨rfl, rfl⟩
        rw [E2.out]
        go_wp2
        go_ret
        exact ⟨by rw [HE.out]; rfl, HB.out⟩
    · have HE := Lib.hid (show may s f t c = false by unfold may May; exact decide_eq_false (fun h => h1 h.2.1))
      have E0 := Lib.hid (decide_eq_true h0)
      have E1 := Lib.hid (decide_eq_false h1)
      clear h0 h1
      go_enter Tryz.func125, Tryz.ntmps125
      go_wp2_with fail
      refine (HS.out _).mono ?_
      rintro e w' ⟨rfl, rfl⟩
      rw [E0.out]
      go_wp2_with fail
      refine (HF.out _).mono ?_
      rintro e w' ⟨rfl, rfl⟩
      rw [E1.out]
      go_wp2
      go_ret
      exact ⟨by rw [HE.out]; rfl, HB.out⟩
  · have HE := Lib.hid (show may s f t c = false by unfold may May; exact decide_eq_false (fun h => h0 h.1))
    have E0 := Lib.hid (decide_eq_false h0)
    clear h0
    go_enter Tryz.func125, Tryz.ntmps125
    go_wp2_with fail
    refine (HS.out _).mono ?_
    rintro e w' ⟨rfl, rfl⟩
    rw [E0.out]
    go_wp2
    go_ret
    exact ⟨by rw [HE.out]; rfl, HB.out⟩

theorem may_iff {s f t c : Int} : may s f t c = true ↔ May s f t c := decide_eq_true_iff
theorem ret_bool {a b : Bool} (h : a = true ↔ b = true) : Ending.returned (Value.bool a) = Ending.returned (Value.bool b) := by rw [Bool.eq_iff_iff.2 h]

section
variable {w : World}
end

theorem all_zero {l : List Nat} (hl : l.length = 8) : l.all (fun x => x == 0) = decide (l = zero) := by
  have e : ∀ l : List Nat, l.all (fun x => x == 0) = true → l = List.replicate l.length 0 := fun l h => List.eq_replicate_iff.2 ⟨rfl, fun x hx => by simpa using List.all_eq_true.1 h x hx⟩
  cases h : l.all (fun x => x == 0) with
  | true =>
    have := e l h
    rw [hl] at this
    exact (decide_eq_true this).symm
  | false =>
    refine (decide_eq_false (fun h0 => ?_)).symm
    rw [h0] at h
    revert h
    decide
end Rec
end Go.Proofs.YtleehhpodgbomaaGreatDoor
/- The program's line of a record: Encode, walked. -/
namespace Go.Proofs.YtleehhpodgbomaaGreatDoor
open Go.RowKit Go.MapKept
namespace Rec
open Lin

theorem field_any (w : World) (n : Nat) (h : n < 65536) :
    Calls Tryz.prog 126 #[.int .i64 (n : Int)] w fun r w' => r = .returned (.agg #[.int .i64 16, .int .u64 (n : Int)]) ∧ Below w.heap.size w w' := by
  go_enter Tryz.func126, Tryz.ntmps126
  go_wp2
  refine bodyPost_ret (v := .agg #[.int .i64 16, .int .u64 (n : Int)]) ?_ rfl ⟨rfl, ?_⟩
  · simp [results, Tryz.results126, go_sem]
  · first
    | exact (Below.refl _ _).alloc (Nat.le_refl _) _
    | exact (((Below.refl _ _).alloc (Nat.le_refl _) _).setCell (by simp) _).setCell (by simp) _

theorem field_one (w : World) : Calls Tryz.prog 126 #[.int .i64 1] w fun r w' => r = .returned (.agg #[.int .i64 16, .int .u64 1]) ∧ Below w.heap.size w w' := field_any w 1 (by decide)

theorem nums_any (w : World) {s f t : Nat} (hs : s < 65536) (hf : f < 65536) (ht : t < 65536) : Calls Tryz.prog 65 #[.slice (some ⟨w.heap.size, 0, none⟩) 4 4] (w.alloc (.cells #[.int .i64 16, .int .u64 1, .int .i64 16, .int .u64 (s : Int), .int .i64 16, .int .u64 (f : Int), .int .i64 16, .int .u64 (t : Int)] 126)) fun e w' => e = .returned (.tuple #[.int .u64 (nums s f t : Nat), .bool true]) ∧ Below w.heap.size w w' := by
  refine (Pack.pack_any _ 4 _ (fds_four w (n := 1) (by decide) hs hf ht)).mono ?_
  rintro e w' ⟨rfl, hb⟩
  rw [pk_nums hs hf ht]
  have hb0 := (Below.refl w.heap.size w).alloc (Nat.le_refl _) (.cells #[.int .i64 16, .int .u64 ((1 : Nat) : Int), .int .i64 16, .int .u64 (s : Int), .int .i64 16, .int .u64 (f : Int), .int .i64 16, .int .u64 (t : Int)] 126)
  exact ⟨rfl, hb0.trans (hb.mono hb0.size)⟩

theorem encode_no (w : World) (s f t c : Int) (hm : may s f t c = false) :
    Calls Tryz.prog 87 #[.agg #[.int .i64 s, .int .i64 f, .int .i64 t, .int .i64 c]] w fun r w' => r = .returned (.tuple #[.slice none 0 0, .int .i64 1]) ∧ Below w.heap.size w w' := by
  have HM := Lib.hid (fun w => may_any w s f t c)
  have HE := Lib.hid hm
  clear hm
  have HB := Lib.hid ((Below.refl w.heap.size w).alloc (Nat.le_refl _) (.cells #[.int .i64 s, .int .i64 f, .int .i64 t, .int .i64 c] 149))
  go_enter Tryz.func87, Tryz.ntmps87
  go_wp2_with fail
  refine (HM.out _).mono ?_
  rintro e w' ⟨rfl, hb⟩
  rw [HE.out]
  have HB1 := Lib.hid (HB.out.trans (hb.mono HB.out.size))
  clear hb
  go_wp2
  go_ret2
  exact ⟨rfl, HB1.out⟩

theorem set_nums (x : Nat) (j : Nat) (_h : j < 8) : (if j = 0 then x else ([] : List Nat)[j]?.getD 0) = [x][j]?.getD 0 := by
  match j with
  | 0 => rfl
  | j + 1 => simp
theorem set_count (x y : Nat) (j : Nat) (_h : j < 8) : (if j = 1 then y else [x][j]?.getD 0) = [x, y][j]?.getD 0 := by
  match j with
  | 0 => rfl
  | 1 => rfl
  | j + 2 => simp
theorem set_sum (x y z : Nat) (j : Nat) (h : j < 8) : (if j = 7 then z else [x, y][j]?.getD 0) = [x, y, 0, 0, 0, 0, 0, z][j]?.getD 0 := by
  have : j = 0 ∨ j = 1 ∨ j = 2 ∨ j = 3 ∨ j = 4 ∨ j = 5 ∨ j = 6 ∨ j = 7 := by omega
  rcases this with rfl | rfl | rfl | rfl | rfl | rfl | rfl | rfl <;> rfl

theorem front_crc {w : World} {g s f t c : Nat} (h : w.rowIs g 71 8 (rowOf [nums s f t, c])) (hs : s < 65536) (hf : f < 65536) (ht : t < 65536) (hc : c < 18446744073709551616) : Crc.Wds w (some ⟨g, 0, none⟩) (front s f t c) := by
  refine row_crc h (by rw [front_len]; omega) (front_u64 hs hf ht hc) ?_
  intro j hj
  have : j < 7 := hj
  have : j = 0 ∨ j = 1 ∨ j = 2 ∨ j = 3 ∨ j = 4 ∨ j = 5 ∨ j = 6 := by omega
  rcases this with rfl | rfl | rfl | rfl | rfl | rfl | rfl <;> rfl

set_option maxHeartbeats 2000000 in
set_option maxRecDepth 100000 in
theorem encode_yes (w : World) (s f t c : Nat) (hm : may s f t c = true) :
    Calls Tryz.prog 87 #[.agg #[.int .i64 (s : Int), .int .i64 (f : Int), .int .i64 (t : Int), .int .i64 (c : Int)]] w fun r w' => ∃ g : Nat, w.heap.size ≤ g ∧ r = .returned (.tuple #[.slice (some ⟨g, 0, none⟩) 8 8, .int .i64 0]) ∧ w'.rowIs g 71 8 (rowOf (ln s f t c)) ∧ Below w.heap.size w w' := by
  obtain ⟨h1, h2, h3, h4, h5⟩ := may_lt hm
  have HM := Lib.hid (fun w => may_any w s f t c)
  have HE := Lib.hid hm
  have HN0 := Lib.hid (fun w => field_one w)
  have HN1 := Lib.hid (fun w => field_any w s (by omega))
  have HN2 := Lib.hid (fun w => field_any w f (by omega))
  have HN3 := Lib.hid (fun w => field_any w t (by omega))
  have HP := Lib.hid (fun w => nums_any w (s := s) (f := f) (t := t) (by omega) (by omega) (by omega))
  have hs64 : s < 65536 := by omega
  have hf64 : f < 65536 := by omega
  have ht64 : t < 65536 := by omega
  have hc64 : c < 18446744073709551616 := by omega
  clear hm
  have HB := Lib.hid ((Below.refl w.heap.size w).alloc (Nat.le_refl _) (.cells #[.int .i64 (s : Int), .int .i64 (f : Int), .int .i64 (t : Int), .int .i64 (c : Int)] 149))
  have HX := Lib.hid (boxed4 w s f t c 149)
  go_enter Tryz.func87, Tryz.ntmps87
  go_wp2_with fail
  refine (HM.out _).mono ?_
  rintro e w1 ⟨rfl, hb⟩
  rw [HE.out]
  have HB1 := Lib.hid (HB.out.trans (hb.mono HB.out.size))
  have HX1 := Lib.hid (HX.out.keep hb)
  have hsz : w.heap.size < w1.heap.size := HX1.out.lt
  clear hb HX
  have hmk := run_make_row' (P := Tryz.prog) 22 71 _ 8 Tryz.underlying22 Pack.u64_info rfl .i64 .i64 8 (by omega) (by omega) w1
  rw [show ((8 : Nat) : Int) = 8 from rfl] at hmk
  have hb2 := (Below.refl w1.heap.size w1).alloc (Nat.le_refl _) (.cells (madeCells #[.int .u64 0] 8) 71)
  have HE2 := Lib.hid (show En4 w w.heap.size w.heap.size w1.heap.size s f t c [] (w1.alloc (.cells (madeCells #[.int .u64 0] 8) 71)) from ⟨HX1.out.keep hb2, row_made w1, by omega, HB1.out.trans (hb2.mono HB1.out.size), HB1.out.size⟩)
  clear hb2 HX1 HB1 HB HM HE
  go_wp2
  generalize w1.alloc (.cells (madeCells #[.int .u64 0] 8) 71) = w2 at *
  generalize hg : w1.heap.size = g at *
  clear hg hmk
  have hs2 : w.heap.size < w2.heap.size := HE2.out.box.lt
  have hc0 := HE2.out.box.c0
  have hc1 := HE2.out.box.c1
  have hc2 := HE2.out.box.c2
  go_region_held3 (fun W' => W'.cell? ⟨w.heap.size, 0, none⟩ = some (.int .i64 (s : Int)) ∧ W'.cell? ⟨w.heap.size, 1, none⟩ = some (.int .i64 (f : Int)) ∧ W'.cell? ⟨w.heap.size, 2, none⟩ = some (.int .i64 (t : Int))) (go_keep)
    (first
    | (go_at_call 126
       with_reducible refine (HN0.out _).mono ?_
       rintro e w3 ⟨rfl, hb⟩
       have HE3 := Lib.hid (HE2.out.drew.keep hb (Nat.le_of_lt HE2.out.drew.box.lt))
       have ha0 := HE3.out.box.c0
       have ha1 := HE3.out.box.c1
       have ha2 := HE3.out.box.c2
       clear hb)
    | (go_at_call 126
       with_reducible refine (HN1.out _).mono ?_
       rintro e w4 ⟨rfl, hb⟩
       have HE4 := Lib.hid (HE3.out.keep hb (Nat.le_of_lt HE3.out.box.lt))
       have hk0 := HE4.out.box.c0
       have hk1 := HE4.out.box.c1
       have hk2 := HE4.out.box.c2
       clear hb)
    | (go_at_call 126
       with_reducible refine (HN2.out _).mono ?_
       rintro e w5 ⟨rfl, hb⟩
       have HE5 := Lib.hid (HE4.out.keep hb (Nat.le_of_lt HE4.out.box.lt))
       have hl0 := HE5.out.box.c0
       have hl1 := HE5.out.box.c1
       have hl2 := HE5.out.box.c2
       clear hb)
    | (go_at_call 126
       with_reducible refine (HN3.out _).mono ?_
       rintro e w6 ⟨rfl, hb⟩
       have HE6 := Lib.hid (HE5.out.keep hb (Nat.le_of_lt HE5.out.box.lt))
       have hm0 := HE6.out.box.c0
       have hm1 := HE6.out.box.c1
       have hm2 := HE6.out.box.c2
       clear hb)
    | (go_at_call 65
       with_reducible refine (HP.out _).mono ?_
       rintro e w8 ⟨rfl, hb⟩
       have HE8 := Lib.hid (HE6.out.keep hb (Nat.le_of_lt HE6.out.box.lt))
       have hn0 := HE8.out.box.c0
       have hn1 := HE8.out.box.c1
       have hn2 := HE8.out.box.c2
       have hn3 := HE8.out.row.cell (i := 0) (by omega)
       have hn4 := HE8.out.row.frozen 0
       have HE9 := Lib.hid (HE8.out.set 0 (nums s f t) (set_nums _))
       have hq0 := HE9.out.box.c0
       have hq1 := HE9.out.box.c1
       have hq2 := HE9.out.box.c2
       clear hb))
  clear ha0 ha1 ha2 hk0 hk1 hk2 hl0 hl1 hl2 hm0 hm1 hm2 hn0 hn1 hn2 hn3 hn4 hq0 hq1 hq2 hc0 hc1 hc2 HE3 HE4 HE5 HE6 HE8 HE2 HN0 HN1 HN2 HN3 HP hs2
  generalize w8.setCell ⟨g, 0, none⟩ (.int .u64 (nums s f t : Int)) = w9 at *
  have hs9 : w.heap.size < w9.heap.size := HE9.out.box.lt
  have hc3 := HE9.out.box.c3
  have hrc := HE9.out.row.cell (i := 1) (by omega)
  have hrf := HE9.out.row.frozen 1
  have HE10 := Lib.hid (HE9.out.set 1 c (set_count _ _))
  have HC := Lib.hid (Crc.words32_any (some ⟨g, 0, none⟩) 8 (front s f t c) (front_crc HE10.out.row hs64 hf64 ht64 hc64))
  have hsl := sum_lt s f t c
  have hrc7 := HE10.out.row.cell (i := 7) (by omega)
  have hrf7 := HE10.out.row.frozen 7
  go_wp2_with fail
  refine HC.out.mono ?_
  rintro e w' ⟨rfl, rfl⟩
  rw [show Crc.S32 (Crc.wflat (front s f t c)) = sum s f t c from rfl]
  clear HC hc3 hrc hrf
  generalize w9.setCell ⟨g, 1, none⟩ (.int .u64 (c : Int)) = w10 at *
  go_wp2
  go_ret2
  have h11 := HE10.out.set 7 (sum s f t c) (set_sum _ _ _)
  exact ⟨g, h11.nN, rfl, h11.row, h11.below⟩
end Rec
end Go.Proofs.YtleehhpodgbomaaGreatDoor
/- Decode, walked. -/
namespace Go.Proofs.YtleehhpodgbomaaGreatDoor
open Go.RowKit Go.MapKept
namespace Rec
open Lin

/-- a record, all noughts if there is none -/
def gv : Option (Nat × Nat × Nat × Nat) → Value
  | some (s, f, t, c) => .agg #[.int .i64 (s : Int), .int .i64 (f : Int), .int .i64 (t : Int), .int .i64 (c : Int)]
  | none => .agg #[.int .i64 0, .int .i64 0, .int .i64 0, .int .i64 0]

theorem split_yes (w : World) (N : Nat) (hN : w.heap.size = N) (x : Nat) (h : x < 18446744073709551616) : Calls Tryz.prog 95 #[.int .u64 (x : Int), .slice (some ⟨N, 0, none⟩) 4 4] (w.alloc (.cells #[.int .i64 16, .int .i64 16, .int .i64 16, .int .i64 16] 3)) fun e w' => ∃ (b o gc : Nat), e = .returned (.tuple #[.slice (some ⟨b, o, none⟩) 4 gc, .bool true]) ∧ (b < w'.heap.size ∧ w'.cell? ⟨b, o + 1, none⟩ = some (.int .u64 ((x / 65536 % 65536 : Nat) : Int)) ∧ w'.cell? ⟨b, o + 2, none⟩ = some (.int .u64 ((x / 4294967296 % 65536 : Nat) : Int)) ∧ w'.cell? ⟨b, o + 3, none⟩ = some (.int .u64 ((x / 281474976710656 : Nat) : Int))) ∧ Below w.heap.size w w' := by
  subst hN
  refine (Pack.split_any x h _ 4 _ (nts_four w)).mono ?_
  rintro e w' ⟨G, gc, rfl, hw, hb⟩
  have hb0 := (Below.refl w.heap.size w).alloc (Nat.le_refl _) (.cells #[.int .i64 16, .int .i64 16, .int .i64 16, .int .i64 16] 3)
  rw [split_nums h] at hw ⊢
  simp only [Option.getD_some] at hw
  obtain ⟨b, o, rfl, hlt, hc1⟩ := hw.at' 1 (by simp)
  obtain ⟨b', o', e, _, hc2⟩ := hw.at' 2 (by simp)
  injection e with e
  injection e with e1 e2
  subst e1 e2
  obtain ⟨b', o', e, _, hc3⟩ := hw.at' 3 (by simp)
  injection e with e
  injection e with e1 e2
  subst e1 e2
  exact ⟨b, o, gc, rfl, ⟨hlt, hc1, hc2, hc3⟩, hb0.trans (hb.mono hb0.size)⟩

section
variable {w : World}
end
end Rec
end Go.Proofs.YtleehhpodgbomaaGreatDoor
/- The document's Encode. -/
namespace Go.Proofs.YtleehhpodgbomaaGreatDoor
open Go.RowKit Go.MapKept
namespace Rec
open Lin

theorem front_new (w : World) (s f t c : Nat) (hs : s < 65536) (hf : f < 65536) (ht : t < 65536) (hc : c < 18446744073709551616) : Crc.Wds (w.alloc (.cells #[.int .u64 ((nums s f t : Nat) : Int), .int .u64 (c : Int), .int .u64 0, .int .u64 0, .int .u64 0, .int .u64 0, .int .u64 0] 71)) (some ⟨w.heap.size, 0, none⟩) (front s f t c) :=
  ⟨front_u64 hs hf ht hc, by rw [front_len]; omega, fun j hj => ⟨w.heap.size, 0, rfl, by simp, by
    rw [World.cell?_alloc_mark, Nat.zero_add]
    have : j < 7 := hj
    match j, this with
    | 0, _ => rfl
    | 1, _ => rfl
    | 2, _ => rfl
    | 3, _ => rfl
    | 4, _ => rfl
    | 5, _ => rfl
    | 6, _ => rfl⟩⟩

end Rec
end Go.Proofs.YtleehhpodgbomaaGreatDoor
/- The document's decoding. -/
namespace Go.Proofs.YtleehhpodgbomaaGreatDoor
open Go.RowKit Go.MapKept
namespace Rec
open Lin

section
variable {w : World}

theorem take_all {l : List Nat} {j : Nat} (hlt : j < l.length) : (l.take (j + 1)).all (fun x => x == 0) = ((l.take j).all (fun x => x == 0) && (l[j] == 0)) := by
  rw [List.take_succ_eq_append_getElem hlt, List.all_append]
  simp

end
end Rec
end Go.Proofs.YtleehhpodgbomaaGreatDoor
/- The chapter's example; RecordEncodes, walked. -/
namespace Go.Proofs.YtleehhpodgbomaaGreatDoor
open Go.RowKit Go.MapKept
namespace Rec
open Lin

theorem nums_ex : nums 2 3 4 = 1125912791875585 := by decide
theorem may_ex : may ((2 : Nat) : Int) ((3 : Nat) : Int) ((4 : Nat) : Int) ((5 : Nat) : Int) = true := by decide

set_option maxHeartbeats 1000000 in
theorem lives_any (w : World) : Calls Tryz.prog 50 #[] w fun r w' => r = .returned (.bool true) ∧ Below w.heap.size w w' := by
  have he : Calls Tryz.prog 87 #[.agg #[.int .i64 2, .int .i64 3, .int .i64 4, .int .i64 5]] w fun r w' => ∃ g : Nat, w.heap.size ≤ g ∧ r = .returned (.tuple #[.slice (some ⟨g, 0, none⟩) 8 8, .int .i64 0]) ∧ w'.rowIs g 71 8 (rowOf (ln 2 3 4 5)) ∧ Below w.heap.size w w' := encode_yes w 2 3 4 5 may_ex
  have HE := Lib.hid he
  have H2 := Lib.hid Crc.lives_any
  have H3 := Lib.hid Pack.lives_any
  clear he
  go_enter Tryz.func50, Tryz.ntmps50
  go_wp2_with fail
  refine HE.out.mono ?_
  rintro e w0 ⟨g, _, rfl, hrow, hb⟩
  have HR1 := Lib.hid hrow
  have HB1 := Lib.hid hb
  clear hrow hb HE
  go_wp2_with fail
  refine (H2.out _).mono ?_
  rintro e w2 ⟨rfl, hb⟩
  have HR2 := Lib.hid (row_keep HR1.out hb)
  have HB2 := Lib.hid (HB1.out.trans (hb.mono HB1.out.size))
  clear hb HR1 HB1
  go_wp2_with fail
  refine (H3.out _).mono ?_
  rintro e w3 ⟨rfl, hb⟩
  have HR3 := Lib.hid (row_keep HR2.out hb)
  have HB3 := Lib.hid (HB2.out.trans (hb.mono HB2.out.size))
  clear hb HR2 HB2
  have hc1 : w3.cell? ⟨g, 0, none⟩ = some (.int .u64 1125912791875585) := by
    rw [HR3.out.cell (i := 0) (by omega)]
    show some (Value.int .u64 ((nums 2 3 4 : Nat) : Int)) = _
    rw [nums_ex]
    rfl
  go_wp2
  go_ret
  exact ⟨rfl, HB3.out⟩

end Rec
end Go.Proofs.YtleehhpodgbomaaGreatDoor
/- The document's words of a text. -/
namespace Go.Proofs.YtleehhpodgbomaaGreatDoor
open Go.RowKit Go.MapKept
namespace Pack

/-- a text's bytes -/
def tx (s : ByteArray) : List Nat := s.data.toList.map UInt8.toNat
theorem tx_len (s : ByteArray) : (tx s).length = s.size := by
  unfold tx
  rw [List.length_map, Array.length_toList]
  rfl
theorem tx_byt (s : ByteArray) : Byt (tx s) := by
  intro b hb
  obtain ⟨x, _, rfl⟩ := List.mem_map.1 hb
  exact x.toNat_lt
theorem tx_get {s : ByteArray} {i : Nat} (h : i < s.size) : at0 (tx s) i = (s[i]'h).toNat := by
  have h' : i < s.data.toList.length := by rw [Array.length_toList]; exact h
  simp only [at0, tx, List.getElem?_map, List.getElem?_eq_getElem h', Option.map_some, Option.getD_some]
  rfl
theorem tx_str {l : List Nat} (h : Byt l) : tx (str l) = l := by
  unfold tx str
  rw [List.map_map]
  refine (List.map_congr_left (fun b hb => ?_)).trans (List.map_id l)
  exact ofNat_toNat (h b hb)

theorem wrds_step {b : List Nat} {m : Nat} (h : m < (wrds b).length) : u64s ((wrds b).take (m + 1)) = u64s ((wrds b).take m) ++ [.int .u64 ((part b m 8 : Nat) : Int)] := by
  rw [List.take_succ_eq_append_getElem h, wrds_get]
  simp only [u64s, List.map_append, List.map_cons, List.map_nil]

theorem up_small {b : List Nat} (h : Byt b) (i : Nat) {n : Nat} (hn : n < 8) : up b i n < 72057594037927936 := Nat.lt_of_lt_of_le (up_lt h i n) (Nat.pow_le_pow_right (n := 256) (j := 7) (by omega) (by omega))

section
variable {w : World}
end
end Pack
end Go.Proofs.YtleehhpodgbomaaGreatDoor
/- A volume's words, of no program: words stored one behind the other, words read from one on, the lines of words that follow each other. -/
namespace Go.Proofs.YtleehhpodgbomaaGreatDoor
open Go.RowKit Go.MapKept
namespace Vol

/-- words stored one behind the other -/
def puts (W : List Nat) (l : List (Nat × Nat)) : List Nat := l.foldl (fun W p => W.set p.1 p.2) W
/-- the stores that make the words from one on these -/
def sto (at0 : Nat) (l : List Nat) : List (Nat × Nat) := (List.range l.length).map fun k => (at0 + k, l[k]?.getD 0)
/-- so many words from one on -/
def rdw (W : List Nat) (at0 n : Nat) : List Nat := (List.range n).map fun i => W[at0 + i]?.getD 0

theorem puts_nil (W : List Nat) : puts W [] = W := rfl
theorem puts_snoc (W : List Nat) (l : List (Nat × Nat)) (p : Nat × Nat) : puts W (l ++ [p]) = (puts W l).set p.1 p.2 := by
  unfold puts
  rw [List.foldl_append]
  rfl
theorem puts_step (W : List Nat) (l : List (Nat × Nat)) (k : Nat) (h : k < l.length) : puts W (l.take (k + 1)) = (puts W (l.take k)).set l[k].1 l[k].2 := by
  rw [List.take_succ_eq_append_getElem h, puts_snoc]
theorem puts_len (W : List Nat) (l : List (Nat × Nat)) : (puts W l).length = W.length := by
  induction l generalizing W with
  | nil => rfl
  | cons p r ih =>
    show (puts (W.set p.1 p.2) r).length = _
    rw [ih, List.length_set]
theorem puts_u64 {W : List Nat} {l : List (Nat × Nat)} (hW : ∀ x ∈ W, x < 18446744073709551616) (hl : ∀ p ∈ l, p.2 < 18446744073709551616) : ∀ x ∈ puts W l, x < 18446744073709551616 := by
  induction l generalizing W with
  | nil => exact hW
  | cons p r ih =>
    show ∀ x ∈ puts (W.set p.1 p.2) r, _
    refine ih ?_ (fun q hq => hl q (.tail _ hq))
    intro x hx
    rcases List.mem_or_eq_of_mem_set hx with h | h
    · exact hW x h
    · rw [h]; exact hl p (.head _)

theorem sto_len (at0 : Nat) (l : List Nat) : (sto at0 l).length = l.length := by simp [sto]
theorem sto_get (at0 : Nat) (l : List Nat) (k : Nat) (h : k < (sto at0 l).length) : (sto at0 l)[k] = (at0 + k, l[k]?.getD 0) := by simp [sto]
theorem sto_lt {at0 L : Nat} {l : List Nat} (h : at0 + l.length ≤ L) : ∀ p ∈ sto at0 l, p.1 < L := by
  intro p hp
  obtain ⟨k, hk, rfl⟩ := List.mem_map.1 hp
  rw [List.mem_range] at hk
  simp only
  omega
theorem sto_u64 {at0 : Nat} {l : List Nat} (h : ∀ x ∈ l, x < 18446744073709551616) : ∀ p ∈ sto at0 l, p.2 < 18446744073709551616 := by
  intro p hp
  obtain ⟨k, hk, rfl⟩ := List.mem_map.1 hp
  rw [List.mem_range] at hk
  simp only
  rw [List.getElem?_eq_getElem hk]
  exact h _ (List.getElem_mem hk)
theorem sto_one (at0 x : Nat) : sto at0 [x] = [(at0, x)] := rfl

theorem puts_get (W : List Nat) (at0 : Nat) (l : List Nat) (h : at0 + l.length ≤ W.length) (k : Nat) (hk : k ≤ l.length) (j : Nat) :
    (puts W ((sto at0 l).take k))[j]?.getD 0 = if at0 ≤ j ∧ j < at0 + k then l[j - at0]?.getD 0 else W[j]?.getD 0 := by
  induction k with
  | zero => rw [List.take_zero, puts_nil, if_neg (by omega)]
  | succ k ih =>
    have hk2 : k < (sto at0 l).length := by rw [sto_len]; omega
    rw [puts_step W _ k hk2, sto_get]
    simp only
    by_cases e : j = at0 + k
    · subst e
      rw [List.getElem?_set_self (by rw [puts_len]; omega), if_pos (by omega), Nat.add_sub_cancel_left]
      rfl
    · rw [List.getElem?_set_ne (by omega), ih (by omega)]
      by_cases h1 : at0 ≤ j ∧ j < at0 + k
      · rw [if_pos h1, if_pos (by omega)]
      · rw [if_neg h1, if_neg (by omega)]
theorem putw_get (W : List Nat) (at0 : Nat) (l : List Nat) (h : at0 + l.length ≤ W.length) (j : Nat) :
    (puts W (sto at0 l))[j]?.getD 0 = if at0 ≤ j ∧ j < at0 + l.length then l[j - at0]?.getD 0 else W[j]?.getD 0 := by
  have := puts_get W at0 l h l.length (Nat.le_refl _) j
  rwa [List.take_of_length_le (by rw [sto_len]; exact Nat.le_refl _)] at this

theorem rdw_len (W : List Nat) (at0 n : Nat) : (rdw W at0 n).length = n := by simp [rdw]
theorem rdw_get (W : List Nat) (at0 n k : Nat) (h : k < (rdw W at0 n).length) : (rdw W at0 n)[k] = W[at0 + k]?.getD 0 := by simp [rdw]
theorem rdw_u64 {W : List Nat} (h : ∀ x ∈ W, x < 18446744073709551616) (at0 n : Nat) : ∀ x ∈ rdw W at0 n, x < 18446744073709551616 := by
  intro x hx
  obtain ⟨k, _, rfl⟩ := List.mem_map.1 hx
  rcases Nat.lt_or_ge (at0 + k) W.length with h1 | h1
  · rw [List.getElem?_eq_getElem h1]
    exact h _ (List.getElem_mem h1)
  · rw [List.getElem?_eq_none h1]
    decide
/-- what was written is read -/
theorem rdw_puts (W : List Nat) (at0 : Nat) (l : List Nat) (h : at0 + l.length ≤ W.length) : rdw (puts W (sto at0 l)) at0 l.length = l := by
  refine List.ext_getElem (by rw [rdw_len]) (fun i h1 h2 => ?_)
  rw [rdw_get, putw_get W at0 l h, if_pos (by omega), Nat.add_sub_cancel_left, List.getElem?_eq_getElem h2]
  rfl
theorem rdw_slice {W : List Nat} {at0 n : Nat} (h : at0 + n ≤ W.length) : rdw W at0 n = (W.drop at0).take n := by
  refine List.ext_getElem (by rw [rdw_len]; simp; omega) (fun i h1 h2 => ?_)
  rw [rdw_len] at h1
  rw [rdw_get, List.getElem_take, List.getElem_drop, List.getElem?_eq_getElem (by omega)]
  rfl

/-- the lines of stores, each once -/
def lin (l : List (Nat × Nat)) : List Int := l.map fun p => ((p.1 / 8 : Nat) : Int)
def lns (l : List (Nat × Nat)) : List Int := Lib.compact (lin l)
theorem lin_len (l : List (Nat × Nat)) : (lin l).length = l.length := by simp [lin]
theorem lin_get (l : List (Nat × Nat)) (k : Nat) (h : k < (lin l).length) : (lin l)[k] = ((l[k]'(by rwa [lin_len] at h)).1 / 8 : Nat) := by simp [lin]
/-- the lines of words that follow each other: where one begins another is counted -/
def lc (at0 : Nat) : Nat → Nat
  | 0 => 0
  | k + 1 => lc at0 k + if k = 0 ∨ (at0 + k) % 8 = 0 then 1 else 0
theorem lc_le (at0 : Nat) : ∀ k, lc at0 k ≤ k
  | 0 => Nat.le_refl _
  | k + 1 => by
    have := lc_le at0 k
    unfold lc
    split <;> omega
theorem upto_mem {α : Type} [Inhabited α] [DecidableEq α] (d : Array α) : ∀ m, m ≤ d.size → ∀ x ∈ Lib.compactUpTo d m, x ∈ d.toList := by
  intro m hm x hx
  unfold Lib.compactUpTo at hx
  obtain ⟨j, hj, rfl⟩ := List.mem_map.1 hx
  have hj := List.mem_range.1 (List.mem_filter.1 hj).1
  rw [getElem!_pos d j (by omega)]
  simp
theorem lns_mem (l : List (Nat × Nat)) : ∀ x ∈ lns l, ∃ p ∈ l, x = ((p.1 / 8 : Nat) : Int) := by
  intro x hx
  have := upto_mem (lin l).toArray (lin l).length (by simp) x hx
  simp only at this
  obtain ⟨p, hp, rfl⟩ := List.mem_map.1 this
  exact ⟨p, hp, rfl⟩
theorem lns_le (l : List (Nat × Nat)) : (lns l).length ≤ l.length := by
  unfold lns Lib.compact Lib.compactUpTo
  rw [List.length_map]
  refine Nat.le_trans (List.length_filter_le _ _) ?_
  rw [List.length_range, lin_len]
  exact Nat.le_refl _
theorem sto_lc (at0 : Nat) (l : List Nat) : (lns (sto at0 l)).length = lc at0 l.length := by
  have key : ∀ m, m ≤ l.length → (Lib.compactUpTo (lin (sto at0 l)).toArray m).length = lc at0 m := by
    intro m
    induction m with
    | zero => intro _; rfl
    | succ m ih =>
      intro hm
      have hg : ∀ j, j < l.length → (lin (sto at0 l)).toArray[j]! = (((at0 + j) / 8 : Nat) : Int) := by
        intro j hj
        have h1 : j < (lin (sto at0 l)).length := by rw [lin_len, sto_len]; exact hj
        rw [getElem!_pos _ j (by simpa using h1), List.getElem_toArray, lin_get, sto_get]
      rw [Lib.compactUpTo_succ, List.length_append, ih (by omega)]
      show _ = lc at0 m + if m = 0 ∨ (at0 + m) % 8 = 0 then 1 else 0
      congr 1
      have hk : Lib.keeps (lin (sto at0 l)).toArray m = decide (m = 0 ∨ (at0 + m) % 8 = 0) := by
        unfold Lib.keeps
        rcases Nat.eq_zero_or_pos m with h0 | h0
        · subst h0; simp
        · rw [hg m (by omega), hg (m - 1) (by omega)]
          refine decide_eq_decide.2 ?_
          omega
      rw [hk]
      by_cases h : m = 0 ∨ (at0 + m) % 8 = 0
      · rw [if_pos h, decide_eq_true h]; rfl
      · rw [if_neg h, decide_eq_false h]; rfl
  have := key l.length (Nat.le_refl _)
  unfold lns Lib.compact
  rw [lin_len, sto_len]
  exact this
end Vol
end Go.Proofs.YtleehhpodgbomaaGreatDoor
/- A device beside what a call keeps: Vd (the device's blocks lie apart from the blocks of Q), Up (its words, its steps, its stores; it isn't down), and its calls. -/
namespace Go.Proofs.YtleehhpodgbomaaGreatDoor
open Go.RowKit Go.MapKept
namespace Vol

/-- the device at block a is A; none of its blocks is one of Q, which lie there -/
def Vd (Q : Nat → Prop) (w : World) (a : Nat) (A : Pm.Abs) : Prop :=
  ∃ D, Pm.Rep w a D ∧ D.abs = A ∧ A.Ok ∧ (∀ k, Pm.Foot a D k → ¬ Q k) ∧ ∀ k, Q k → k < w.heap.size
/-- the blocks of Q are as they were -/
abbrev Kq (Q : Nat → Prop) (w w' : World) : Prop := Pm.Off (fun k => ¬ Q k) w w'

section
variable {Q Q' : Nat → Prop} {w w' w'' : World} {a : Nat} {A A' : Pm.Abs}
theorem Kq.trans (h : Kq Q w w') (k : Kq Q w' w'') : Kq Q w w'' := Pm.Off.trans h k (fun _ _ h => h)
theorem Kq.sub (h : Kq Q' w w') (hs : ∀ k, Q k → Q' k) : Kq Q w w' := h.mono (fun b _ hn hq => hn (hs b hq))
theorem Kq.at (h : Kq Q w w') {k : Nat} (hq : Q k) (hk : k < w.heap.size) : w'.heap[k]? = w.heap[k]? := h.block k hk (fun hn => hn hq)
theorem kq_below (h : Below w.heap.size w w') : Kq Q w w' := ⟨h.os, h.tape, h.output, h.size, fun k hk _ => h.block k hk⟩
theorem Kq.below {B : Nat} (h : Kq Q w w') (hB : B ≤ w.heap.size) (hq : ∀ k, k < B → Q k) : Below B w w' :=
  ⟨h.os, h.tape, h.output, h.size, fun k hk => h.block k (by omega) (fun hn => hn (hq k hk))⟩

theorem Vd.lt (h : Vd Q w a A) : ∀ k, Q k → k < w.heap.size := by
  obtain ⟨_, _, _, _, _, h⟩ := h; exact h
theorem Vd.ok (h : Vd Q w a A) : A.Ok := by
  obtain ⟨_, _, _, h, _⟩ := h; exact h
theorem Vd.keep (h : Vd Q w a A) (hb : Below w.heap.size w w') : Vd Q w' a A := by
  obtain ⟨D, hrep, e, ok, hf, hq⟩ := h
  exact ⟨D, hrep.keep (fun k hk => hb.block k (hrep.foot_lt hk)), e, ok, hf, fun k hk => Nat.lt_of_lt_of_le (hq k hk) hb.size⟩
/-- what was made since is kept, too -/
theorem Vd.grow (h : Vd Q w a A) (hb : Below w.heap.size w w') : Vd (fun k => Q k ∨ (w.heap.size ≤ k ∧ k < w'.heap.size)) w' a A := by
  obtain ⟨D, hrep, e, ok, hf, hq⟩ := h
  refine ⟨D, hrep.keep (fun k hk => hb.block k (hrep.foot_lt hk)), e, ok, fun k hk hn => ?_, fun k hk => ?_⟩
  · rcases hn with hn | hn
    · exact hf k hk hn
    · have := hrep.foot_lt hk; omega
  · rcases hk with hk | hk
    · exact Nat.lt_of_lt_of_le (hq k hk) hb.size
    · exact hk.2
theorem Vd.sub (h : Vd Q w a A) (hs : ∀ k, Q' k → Q k) : Vd Q' w a A := by
  obtain ⟨D, hrep, e, ok, hf, hq⟩ := h
  exact ⟨D, hrep, e, ok, fun k hk hn => hf k hk (hs k hn), fun k hk => hq k (hs k hk)⟩
theorem vd_step {D D' : Pm.Dev} (hf : ∀ k, Pm.Foot a D k → ¬ Q k) (hq : ∀ k, Q k → k < w.heap.size) (hr : Pm.Res w a D w' D') (ha : D'.abs = A') (hok : A'.Ok) : Vd Q w' a A' ∧ Kq Q w w' := by
  refine ⟨⟨D', hr.rep, ha, hok, fun k hk hn => ?_, fun k hk => Nat.lt_of_lt_of_le (hq k hk) hr.off.size⟩, hr.off.mono (fun b _ hb => hf b hb)⟩
  rcases hr.foot k hk with h | h
  · exact hf k h hn
  · have := hq k hn; omega
theorem Vd.ses (h : Vd Q w a A) : Pm.Ses 0 w w a A := by
  obtain ⟨D, hrep, e, ok, hf, hq⟩ := h
  exact ⟨D, hrep, e, ok, Below.refl _ _, fun _ _ => Nat.zero_le _, Nat.zero_le _⟩

/-- a device that isn't armed: its words, its steps, its stores -/
def Up (Q : Nat → Prop) (w : World) (a : Nat) (W : List Nat) (st sn : Nat) : Prop :=
  ∃ A : Pm.Abs, Vd Q w a A ∧ A.armed = false ∧ A.words = W.map Int.ofNat ∧ (∀ x ∈ W, x < 18446744073709551616) ∧ A.steps = st ∧ A.stores = sn
variable {W : List Nat} {st sn : Nat}
theorem Up.lt (h : Up Q w a W st sn) : ∀ k, Q k → k < w.heap.size := by
  obtain ⟨A, h, _⟩ := h; exact h.lt
theorem Up.u64 (h : Up Q w a W st sn) : ∀ x ∈ W, x < 18446744073709551616 := by
  obtain ⟨A, _, _, _, h, _⟩ := h; exact h
theorem Up.size (h : Up Q w a W st sn) : W.length ≤ 4194304 := by
  obtain ⟨A, h, _, e, _⟩ := h
  have := h.ok.size
  rw [e] at this
  simpa using this
theorem Up.keep (h : Up Q w a W st sn) (hb : Below w.heap.size w w') : Up Q w' a W st sn := by
  obtain ⟨A, h, r⟩ := h; exact ⟨A, h.keep hb, r⟩
theorem Up.grow (h : Up Q w a W st sn) (hb : Below w.heap.size w w') : Up (fun k => Q k ∨ (w.heap.size ≤ k ∧ k < w'.heap.size)) w' a W st sn := by
  obtain ⟨A, h, r⟩ := h; exact ⟨A, h.grow hb, r⟩
theorem Up.sub (h : Up Q w a W st sn) (hs : ∀ k, Q' k → Q k) : Up Q' w a W st sn := by
  obtain ⟨A, h, r⟩ := h; exact ⟨A, h.sub hs, r⟩
/-- a block of Q may be set -/
theorem Up.put (h : Up Q w a W st sn) {p : Addr} (hp : Q p.block) (v : Value) : Up Q (w.setCell p v) a W st sn := by
  obtain ⟨A, ⟨D, hrep, e, ok, hf, hq⟩, r⟩ := h
  refine ⟨A, ⟨D, hrep.keep (fun k hk => Below.heap_setCell _ _ _ _ (fun e => hf k hk (by rw [e]; exact hp))), e, ok, hf, fun k hk => ?_⟩, r⟩
  have := hq k hk
  simpa [World.setCell] using this
theorem wds_block {w w' : World} {g : Nat} {l : List Nat} (h : Pack.Wds w (some ⟨g, 0, none⟩) l) (e : w'.heap[g]? = w.heap[g]?) : Pack.Wds w' (some ⟨g, 0, none⟩) l :=
  ⟨h.u64, h.len, fun j hj => by
    obtain ⟨b, o, e1, h1, h2⟩ := h.at' j hj
    injection e1 with e1
    injection e1 with e1 e2
    subst e1 e2
    refine ⟨g, 0, rfl, Pm.lt_of_some (e.trans (Array.getElem?_eq_getElem h1)), (World.cell?_of_block (w := w) e).trans h2⟩⟩
theorem abs_down (h : A.armed = false) : A.down = false := by unfold Pm.Abs.down; rw [h]; rfl

theorem up_load (h : Up Q w a W st sn) (k : Nat) : Calls Tryz.prog 57 #[.pointer (some ⟨a, 0, none⟩), .int .i64 (k : Int)] w fun r w' => r = .returned (.int .u64 ((W[k]?.getD 0 : Nat) : Int)) ∧ w = w' := by
  obtain ⟨A, hv, hu, hw, _⟩ := h
  refine (Pm.ses_load hv.ses (k : Int)).mono ?_
  rintro r w' ⟨rfl, rfl⟩
  refine ⟨?_, rfl⟩
  congr 2
  unfold Pm.Abs.has
  rw [hw]
  by_cases hk : k < W.length
  · rw [if_pos (by simp; exact hk)]
    simp [List.getElem?_eq_getElem hk]
  · rw [if_neg (by simp; omega), List.getElem?_eq_none (by omega)]
    rfl

theorem up_store (h : Up Q w a W st sn) (k x : Nat) (hk : k < W.length) (hx : x < 18446744073709551616) (hs : st + 1 < 100000000000) :
    Calls Tryz.prog 68 #[.pointer (some ⟨a, 0, none⟩), .int .i64 (k : Int), .int .u64 (x : Int)] w fun r w' => r = .returned (.bool true) ∧ Up Q w' a (W.set k x) (st + 1) (sn + 1) ∧ Kq Q w w' := by
  obtain ⟨A, ⟨D, hrep, rfl, hok, hf, hq⟩, hu, hw, h64, h1, h2⟩ := h
  have hkl : k < D.abs.words.length := by rw [hw]; simpa using hk
  refine (Pm.store_any hrep hok (abs_down hu) k (x : Int) hkl).mono ?_
  rintro r w' ⟨rfl, D', hres, ha⟩
  have hst : D.abs.steps + 1 < 100000000000 := by omega
  obtain ⟨g1, g2⟩ := vd_step hf hq hres ha (Pm.store_ok hok hkl (x : Int) hst)
  refine ⟨rfl, ⟨_, g1, ?_, ?_, ?_, ?_, ?_⟩, g2⟩
  · exact hu
  · show D.abs.words.set k (x : Int) = _
    rw [hw, List.map_set]
    rfl
  · intro y hy
    rcases List.mem_or_eq_of_mem_set hy with h | h
    · exact h64 y h
    · rw [h]; exact hx
  · show D.abs.steps + 1 = _
    rw [h1]
  · show D.abs.stores + 1 = _
    rw [h2]

theorem mark_same (A : Pm.Abs) (k : Nat) : (A.mark k).words = A.words ∧ (A.mark k).armed = A.armed ∧ (A.mark k).steps = A.steps ∧ (A.mark k).stores = A.stores := by
  unfold Pm.Abs.mark
  cases Pm.pget A.pend k with
  | none => exact ⟨rfl, rfl, rfl, rfl⟩
  | some v => exact ⟨rfl, rfl, rfl, rfl⟩
theorem marks_same (A : Pm.Abs) (k : Nat) : ∀ n, (A.marks k n).words = A.words ∧ (A.marks k n).armed = A.armed ∧ (A.marks k n).steps = A.steps ∧ (A.marks k n).stores = A.stores := by
  intro n
  induction n with
  | zero => exact ⟨rfl, rfl, rfl, rfl⟩
  | succ n ih =>
    have e : A.marks k (n + 1) = (A.marks k n).mark (k + n) := rfl
    rw [e]
    obtain ⟨h1, h2, h3, h4⟩ := mark_same (A.marks k n) (k + n)
    exact ⟨h1.trans ih.1, h2.trans ih.2.1, h3.trans ih.2.2.1, h4.trans ih.2.2.2⟩

theorem up_flush (h : Up Q w a W st sn) (k : Nat) (hk : 8 * k < W.length) (hs : st + 1 < 100000000000) :
    Calls Tryz.prog 70 #[.pointer (some ⟨a, 0, none⟩), .int .i64 (k : Int)] w fun r w' => r = .returned (.bool true) ∧ Up Q w' a W (st + 1) sn ∧ Kq Q w w' := by
  obtain ⟨A, ⟨D, hrep, rfl, hok, hf, hq⟩, hu, hw, h64, h1, h2⟩ := h
  have hkl : 8 * k < D.words.length := by
    have e : D.words.length = W.length := by
      have e : D.words = W.map Int.ofNat := hw
      rw [e, List.length_map]
    omega
  have hst : D.abs.steps + 1 < 100000000000 := by omega
  refine (Pm.flush_yes hrep hok (abs_down hu) k hkl hst).mono ?_
  rintro r w' ⟨rfl, D', hres, ha⟩
  obtain ⟨g1, g2⟩ := vd_step hf hq hres ha (Pm.flush_ok hok k hst)
  have hm := marks_same D.abs.step (8 * k) (min 8 (D.abs.words.length - 8 * k))
  refine ⟨rfl, ⟨_, g1, ?_, ?_, h64, ?_, ?_⟩, g2⟩
  · exact hm.2.1.trans hu
  · exact hm.1.trans hw
  · refine hm.2.2.1.trans ?_
    show D.abs.steps + 1 = _
    rw [h1]
  · exact hm.2.2.2.trans h2

theorem settle_same (A : Pm.Abs) (k : Nat) : (A.settle k).words = A.words ∧ (A.settle k).armed = A.armed ∧ (A.settle k).steps = A.steps ∧ (A.settle k).stores = A.stores := by
  unfold Pm.Abs.settle
  cases Pm.pget A.pend k with
  | none => exact ⟨rfl, rfl, rfl, rfl⟩
  | some v =>
    obtain ⟨vs, m⟩ := v
    simp only
    split <;> exact ⟨rfl, rfl, rfl, rfl⟩
theorem settles_same : ∀ (l : List Nat) (A : Pm.Abs), (A.settles l).words = A.words ∧ (A.settles l).armed = A.armed ∧ (A.settles l).steps = A.steps ∧ (A.settles l).stores = A.stores
  | [], _ => ⟨rfl, rfl, rfl, rfl⟩
  | k :: r, A => by
    obtain ⟨h1, h2, h3, h4⟩ := settles_same r (A.settle k)
    obtain ⟨g1, g2, g3, g4⟩ := settle_same A k
    exact ⟨h1.trans g1, h2.trans g2, h3.trans g3, h4.trans g4⟩

theorem up_fence (h : Up Q w a W st sn) (hs : st + 1 < 100000000000) :
    Calls Tryz.prog 117 #[.pointer (some ⟨a, 0, none⟩)] w fun r w' => r = .returned (.bool true) ∧ Up Q w' a W (st + 1) sn ∧ Kq Q w w' := by
  obtain ⟨A, ⟨D, hrep, rfl, hok, hf, hq⟩, hu, hw, h64, h1, h2⟩ := h
  have hst : D.abs.steps + 1 < 100000000000 := by omega
  refine (Pm.fence_yes hrep hok (abs_down hu) hst).mono ?_
  rintro r w' ⟨rfl, D', hres, ha⟩
  obtain ⟨g1, g2⟩ := vd_step hf hq hres ha (Pm.fence_ok hok hst)
  have hm := settles_same D.abs.marked D.abs.step
  refine ⟨rfl, ⟨_, g1, ?_, ?_, h64, ?_, ?_⟩, g2⟩
  · exact hm.2.1.trans hu
  · exact hm.1.trans hw
  · refine hm.2.2.1.trans ?_
    show D.abs.steps + 1 = _
    rw [h1]
  · exact hm.2.2.2.trans h2

theorem up_len (h : Up Q w a W st sn) : Calls Tryz.prog 94 #[.pointer (some ⟨a, 0, none⟩)] w fun r w' => r = .returned (.int .i64 (W.length : Int)) ∧ w = w' := by
  obtain ⟨A, hv, hu, hw, _⟩ := h
  have := Pm.ses_len hv.ses
  rw [hw, List.length_map] at this
  exact this

theorem up_steps (h : Up Q w a W st sn) : Calls Tryz.prog 21 #[.pointer (some ⟨a, 0, none⟩)] w fun r w' => r = .returned (.int .i64 (st : Int)) ∧ w = w' := by
  obtain ⟨A, ⟨D, hrep, rfl, _⟩, _, _, _, h1, _⟩ := h
  have c0 := hrep.cell 0
  simp only [Pm.Dev.cells] at c0
  have h1 : D.steps = st := h1
  rw [h1] at c0
  clear hrep h1
  go_enter Tryz.func21, Tryz.ntmps21
  go_wp2
  go_ret
  exact ⟨rfl, rfl⟩
theorem up_stores (h : Up Q w a W st sn) : Calls Tryz.prog 22 #[.pointer (some ⟨a, 0, none⟩)] w fun r w' => r = .returned (.int .i64 (sn : Int)) ∧ w = w' := by
  obtain ⟨A, ⟨D, hrep, rfl, _⟩, _, _, _, _, h1⟩ := h
  have c0 := hrep.cell 1
  simp only [Pm.Dev.cells] at c0
  have h1 : D.stores = sn := h1
  rw [h1] at c0
  clear hrep h1
  go_enter Tryz.func22, Tryz.ntmps22
  go_wp2
  go_ret
  exact ⟨rfl, rfl⟩

theorem u64s_map (l : List Nat) : Pm.u64s (l.map Int.ofNat) = Pack.u64s l := by
  unfold Pm.u64s Pack.u64s
  rw [List.map_map]
  rfl
/-- words in a row of the call's own -/
def Row (w w' : World) (r : Ending) (l : List Nat) : Prop :=
  ∃ g c : Nat, r = .returned (.slice (some ⟨g, 0, none⟩) l.length c) ∧ w.heap.size ≤ g ∧ Pack.Wds w' (some ⟨g, 0, none⟩) l ∧ Below w.heap.size w w'

theorem off_below {w w' : World} (h : Pm.Off (fun _ => False) w w') : Below w.heap.size w w' := ⟨h.os, h.tape, h.output, h.size, fun k hk => h.block k hk id⟩

set_option maxRecDepth 100000 in
theorem up_words (h : Up Q w a W st sn) (h0 : 0 < W.length) : Calls Tryz.prog 23 #[.pointer (some ⟨a, 0, none⟩)] w fun r w' => Row w w' r W := by
  have hsz := h.size
  have h64 := h.u64
  obtain ⟨A, ⟨D, hrep, rfl, _⟩, _, hw, _⟩ := h
  have hw : D.words = W.map Int.ofNat := hw
  have c4 := hrep.c4
  have hcl := Pm.clone_any (w := w) ⟨D.wb, 0, none⟩ D.wcap D.words (Pm.lt_of_some hrep.wds) (by rw [hw, List.length_map]; omega) (fun j u hu => by
    have hj := (List.getElem?_eq_some_iff.1 hu).1
    rw [Addr.add_lit, Pm.blk_cell hrep.wds, List.getElem?_toArray, Nat.zero_add, List.getElem?_append_left hj]
    exact hu)
  have HC := Lib.hid hcl
  have HW := Lib.hid hw
  clear hcl hrep hw
  go_enter Tryz.func23, Tryz.ntmps23
  go_wp2_with fail
  refine HC.out.mono ?_
  rintro r w1 ⟨v, rfl, hown, hoff⟩
  rw [HW.out, u64s_map, List.length_map] at hown
  obtain ⟨g, c, rfl⟩ := Pm.row_form hown h0
  have hb := Pack.row_base_lt hown (g := g) rfl
  have HO := Lib.hid hown
  have HF := Lib.hid hoff
  clear hown hoff HC
  go_wp2
  go_ret
  exact ⟨g, c, rfl, hb, Pack.own_wds HO.out h64 (by omega), off_below HF.out⟩
end
end Vol
end Go.Proofs.YtleehhpodgbomaaGreatDoor
/- pm.Of: a device of words. -/
namespace Go.Proofs.YtleehhpodgbomaaGreatDoor
open Go.RowKit Go.MapKept
namespace Vol
section
variable {w : World}

theorem own_room (G : Option Addr) (n m : Nat) : Calls Tryz.prog 91 #[.slice G n m] w fun e w' => e = .returned (.pointer (some ⟨w.heap.size + 1, 0, none⟩)) ∧
    w' = (w.alloc (.map #[] 0)).alloc (.cells #[.int .i64 0, .int .i64 0, .bool false, .int .i64 0, .slice G n m, .map (some w.heap.size), .slice none 0 0] 69) := by
  have hmm := @run_makeMap Tryz.prog
  go_enter Tryz.func91, Tryz.ntmps91
  go_wp2
  go_ret
  exact ⟨rfl, rfl⟩

/-- a device of words that lie in a row of the call's own -/
theorem rep_of {w1 : World} {g c : Nat} {l : List Int} (h : w1.ownsRow w.heap.size 71 1 (.slice (some ⟨g, 0, none⟩) l.length c) l.length (Pm.u64s l)) :
    ∃ D, D.abs = ⟨0, 0, false, 0, l, [], []⟩ ∧ Pm.Rep ((w1.alloc (.map #[] 0)).alloc (.cells #[.int .i64 0, .int .i64 0, .bool false, .int .i64 0, .slice (some ⟨g, 0, none⟩) l.length c, .map (some w1.heap.size), .slice none 0 0] 69)) (w1.heap.size + 1) D ∧
      ∀ k, Pm.Foot (w1.heap.size + 1) D k → w.heap.size ≤ k := by
  rcases h.2 with ⟨e, _⟩ | ⟨g', c', cur, e, hb, hg, hn, hm, hs, ht⟩
  · cases e
  injection e with e1 _ e3
  injection e1 with e1
  injection e1 with e1
  subst e1 e3
  simp only [Nat.mul_one] at hs ht
  have hglt := Pm.lt_of_some hg
  have hcur : (Pm.u64s l ++ cur.toList.drop l.length).toArray = cur := by
    apply Array.toList_inj.1
    rw [← ht]
    exact List.take_append_drop _ _
  refine ⟨{ steps := 0, stores := 0, armed := false, left := 0, words := l, ents := [], marked := [], wb := g, mb := w1.heap.size, clock := 0, mka := none, mkc := 0, wcap := c, spare := cur.toList.drop l.length }, rfl, ?_, ?_⟩
  · refine ⟨?_, ?_, ?_, by simp, ⟨by simp [Pm.i64s], .inl ⟨rfl, rfl⟩⟩, by simp, by simp, by simp [Pm.Stamp]⟩
    · have := (heap_alloc (w1.alloc (.map #[] 0)) (.cells #[.int .i64 0, .int .i64 0, .bool false, .int .i64 0, .slice (some ⟨g, 0, none⟩) l.length c, .map (some w1.heap.size), .slice none 0 0] 69)).1
      rw [World.size_alloc] at this
      exact this
    · show _ = some (Obj.cells (Pm.u64s l ++ cur.toList.drop l.length).toArray 71 (0, 0))
      rw [hcur]
      exact Pm.blk_alloc (Pm.blk_alloc hg _) _
    · exact Pm.blk_alloc (heap_alloc w1 _).1 _
  · rintro k (rfl | rfl | rfl | hk | hk)
    · omega
    · exact hb
    · show w.heap.size ≤ w1.heap.size
      omega
    · simp at hk
    · simp [Pm.Dev.mkv, Value.ownBlock] at hk

set_option maxHeartbeats 4000000 in
set_option maxRecDepth 100000 in
theorem of_any (g c : Nat) (l : List Nat) (h : Pack.Wds w (some ⟨g, 0, none⟩) l) (hg : g < w.heap.size) (hc : l.length ≤ c) (h0 : 0 < l.length) (hl : l.length ≤ 4194304) :
    Calls Tryz.prog 54 #[.slice (some ⟨g, 0, none⟩) l.length c] w fun r w' => ∃ a, r = .returned (.pointer (some ⟨a, 0, none⟩)) ∧ Up (fun k => k < w.heap.size) w' a l 0 0 ∧ Below w.heap.size w w' := by
  have hcl := fun n => Pm.clone_any (w := w) ⟨g, 0, none⟩ n (l.map Int.ofNat) hg (by rw [List.length_map]; omega) (fun j u hu => by
    rw [Addr.add_lit]
    unfold Pm.u64s at hu
    rw [List.map_map, List.getElem?_map] at hu
    rcases Nat.lt_or_ge j l.length with h1 | h1
    · obtain ⟨b, o, e, _, hc⟩ := h.at' j h1
      injection e with e
      injection e with e1 e2
      subst e1 e2
      rw [List.getElem?_eq_getElem h1] at hu
      rw [hc]
      exact hu
    · rw [List.getElem?_eq_none h1] at hu
      cases hu)
  rw [List.length_map] at hcl
  have HC := Lib.hid hcl
  have H64 := Lib.hid h.u64
  have HO := Lib.hid (fun (w : World) G n m => @own_room w G n m)
  have hmin : min (l.length : Int) 4194304 = (l.length : Int) := by omega
  have HMIN := Lib.hid hmin
  clear hcl h hg hmin
  go_enter Tryz.func54, Tryz.ntmps54
  go_wp2_with fail
  try rw [HMIN.out, Int.toNat_natCast]
  refine (HC.out _).mono ?_
  rintro r w1 ⟨v, rfl, hown, hoff⟩
  rw [List.length_map] at hown
  obtain ⟨g1, c1, rfl⟩ := Pm.row_form hown h0
  have HW := Lib.hid hown
  have HF := Lib.hid hoff
  clear hown hoff HC
  go_wp2_with fail
  refine (HO.out _ _ _ _).mono ?_
  rintro r w2 ⟨rfl, rfl⟩
  go_wp2
  go_ret
  have hown := HW.out
  rw [show l.length = (l.map Int.ofNat).length by simp] at hown
  obtain ⟨D, hD, hrep, hf⟩ := rep_of (w := w) hown
  rw [List.length_map] at hrep
  have hb := (off_below HF.out)
  have hb2 : Below w.heap.size w ((w1.alloc (.map #[] 0)).alloc (.cells #[.int .i64 0, .int .i64 0, .bool false, .int .i64 0, .slice (some ⟨g1, 0, none⟩) l.length c1, .map (some w1.heap.size), .slice none 0 0] 69)) :=
    (hb.alloc hb.size _).alloc (by have := hb.size; simp; omega) _
  refine ⟨_, rfl, ⟨_, ⟨D, hrep, hD, ?_, fun k hk hn => ?_, fun k hk => ?_⟩, rfl, rfl, H64.out, rfl, rfl⟩, hb2⟩
  · refine ⟨by simp, by simp, by simp, by simp, by simp, by simpa using hl, Nat.le_refl _, by simp, by simp⟩
  · have := hf k hk
    omega
  · exact Nat.lt_of_lt_of_le hk hb2.size
end
end Vol
end Go.Proofs.YtleehhpodgbomaaGreatDoor
/- The library's bodies (slices.Compact) as they stand in this program, in plain words. -/
namespace Go.Proofs
open Go.Shelf
def Tryz.compactA_ren : Go.Shelf.Ren := ⟨fun | 43 => 104 | n => n, fun | 22 => 33 | 23 => 3 | 3 => 3 | 4 => 4 | 0 => 0 | n => n, fun | n => n⟩
theorem Tryz.compactA : Go.Proofs.SlLaysN.n43 Tryz.prog Tryz.compactA_ren := {
  mixed := by kernel_rfl
  f43 := ⟨Tryz.f104.name, by decide, Tryz.func104.trans (congrArg some (by kernel_rfl))⟩
  t0 := Tryz.underlying0
  a0 := Tryz.isAgg0
  z0 := Tryz.sizeOf0
  v0 := Tryz.zeroValue0
  t3 := Tryz.underlying3
  a3 := Tryz.isAgg3
  z3 := Tryz.sizeOf3
  v3 := Tryz.zeroValue3
  t4 := Tryz.underlying4
  a4 := Tryz.isAgg4
  z4 := Tryz.sizeOf4
  v4 := Tryz.zeroValue4
  t22 := Tryz.underlying33
  a22 := Tryz.isAgg33
  z22 := Tryz.sizeOf33
  v22 := Tryz.zeroValue33
  t23 := Tryz.underlying3
  a23 := Tryz.isAgg3
  z23 := Tryz.sizeOf3
  v23 := Tryz.zeroValue3
  i23 := by kernel_rfl }
end Go.Proofs
/- The medium: words read and written many at once. -/
namespace Go.Proofs.YtleehhpodgbomaaGreatDoor
open Go.RowKit Go.MapKept
namespace Vol

/-- stores as they lie, from the start of a block -/
structure Sts (w : World) (g : Nat) (l : List (Nat × Nat)) : Prop where
  lt : g < w.heap.size
  at' : ∀ j (h : j < l.length), w.cell? ⟨g, j * 2, none⟩ = some (.int .i64 (l[j].1 : Int)) ∧ w.cell? ⟨g, j * 2 + 1, none⟩ = some (.int .u64 (l[j].2 : Int))
theorem Sts.of_block {w w' : World} {g : Nat} {l : List (Nat × Nat)} (h : Sts w g l) (e : w'.heap[g]? = w.heap[g]?) : Sts w' g l :=
  ⟨Pm.lt_of_some (e.trans (Array.getElem?_eq_getElem h.lt)), fun j hj => ⟨(World.cell?_of_block (w := w) e).trans (h.at' j hj).1, (World.cell?_of_block (w := w) e).trans (h.at' j hj).2⟩⟩
theorem Sts.keep {w w' : World} {g : Nat} {l : List (Nat × Nat)} (h : Sts w g l) (hb : Below w.heap.size w w') : Sts w' g l := h.of_block (hb.block g h.lt)
theorem Sts.kq {Q : Nat → Prop} {w w' : World} {g : Nat} {l : List (Nat × Nat)} (h : Sts w g l) (hk : Kq Q w w') (hq : Q g) : Sts w' g l := h.of_block (hk.at hq h.lt)

section
variable {Q : Nat → Prop} {w : World} {a : Nat} {W : List Nat} {st sn : Nat}

/-- a device pointer in a box -/
structure Bx (w : World) (b a : Nat) : Prop where
  lt : b < w.heap.size
  c0 : w.cell? ⟨b, 0, none⟩ = some (.pointer (some ⟨a, 0, none⟩))
theorem Bx.of_block {w w' : World} {b a : Nat} (h : Bx w b a) (e : w'.heap[b]? = w.heap[b]?) : Bx w' b a :=
  ⟨Pm.lt_of_some (e.trans (Array.getElem?_eq_getElem h.lt)), (World.cell?_of_block (w := w) e).trans h.c0⟩
theorem Bx.keep {w w' : World} {b a : Nat} (h : Bx w b a) (hb : Below w.heap.size w w') : Bx w' b a := h.of_block (hb.block b h.lt)
theorem Bx.kq {Q : Nat → Prop} {w w' : World} {b a : Nat} (h : Bx w b a) (hk : Kq Q w w') (hq : Q b) : Bx w' b a := h.of_block (hk.at hq h.lt)
theorem bx_new (w : World) (a : Nat) (t : TypeId) : Bx (w.alloc (.cells #[.pointer (some ⟨a, 0, none⟩)] t)) w.heap.size a := ⟨by simp, Pack.alloc_cell w _ t 0⟩

/-- the words that were read up to k -/
structure Rd (w : World) (a n : Nat) (l : List Nat) (k : Nat) (wr : World) : Prop where
  box : Bx wr w.heap.size a
  row : wr.rowIs (w.heap.size + 1) 71 n (Pack.upto l k)
  below : Below w.heap.size w wr
theorem Rd.set {wr : World} {n k : Nat} {l : List Nat} (h : Rd w a n l k wr) : Rd w a n l (k + 1) (wr.setCell ⟨w.heap.size + 1, k, none⟩ (.int .u64 ((l[k]?.getD 0 : Nat) : Int))) :=
  ⟨h.box.of_block (Below.heap_setCell _ _ _ _ (by show w.heap.size ≠ w.heap.size + 1; omega)), (h.row.set k _).congr (fun j _ => Pack.upto_step j), h.below.setCell (by show w.heap.size ≤ w.heap.size + 1; omega) _⟩

theorem store_info : (Tryz.prog.info? 106).map (fun i => (i.zero, i.size, i.bytes)) = some (some (.agg #[.int .i64 0, .int .u64 0]), 2, 16) := by kernel_rfl
/-- the cells of stores, made up to the m-th -/
def stc (l : List (Nat × Nat)) (m i : Nat) : Value :=
  if i / 2 < m then (if i % 2 = 0 then .int .i64 (((l[i / 2]?.getD (0, 0)).1 : Nat) : Int) else .int .u64 (((l[i / 2]?.getD (0, 0)).2 : Nat) : Int)) else if i % 2 = 0 then .int .i64 0 else .int .u64 0
theorem stc_step {l : List (Nat × Nat)} {m x y : Nat} (h : l[m]?.getD (0, 0) = (x, y)) (j : Nat) : (if j = m * 2 + 1 then Value.int .u64 (y : Int) else if j = m * 2 then Value.int .i64 (x : Int) else stc l m j) = stc l (m + 1) j := by
  unfold stc
  by_cases h1 : j = m * 2 + 1
  · subst h1
    rw [if_pos rfl, show (m * 2 + 1) / 2 = m by omega, if_pos (by omega), if_neg (by omega), h]
  · rw [if_neg h1]
    by_cases h2 : j = m * 2
    · subst h2
      rw [if_pos rfl, show m * 2 / 2 = m by omega, if_pos (by omega), if_pos (by omega), h]
    · rw [if_neg h2]
      by_cases h3 : j / 2 < m
      · rw [if_pos h3, if_pos (show j / 2 < m + 1 by omega)]
      · rw [if_neg h3, if_neg (show ¬ j / 2 < m + 1 by omega)]
theorem made_two (w : World) (n : Nat) (l : List (Nat × Nat)) (t : TypeId) : (w.alloc (.cells (madeCells #[.int .i64 0, .int .u64 0] (n * 2)) t)).rowIs w.heap.size t (n * 2) (stc l 0) := by
  have h := World.rowIs_alloc w (madeCells #[.int .i64 0, .int .u64 0] (n * 2)) t (stc l 0) (fun i hi => by
    rw [size_madeCells] at hi
    unfold stc
    rw [if_neg (by omega)]
    have : i % 2 = 0 ∨ i % 2 = 1 := by omega
    rcases this with h | h <;> simp [madeCells, hi, h])
  rwa [size_madeCells] at h
theorem sts_row {g n : Nat} {l : List (Nat × Nat)} {t : TypeId} (h : w.rowIs g t (n * 2) (stc l n)) (hl : l.length = n) : Sts w g l := by
  refine ⟨h.lt, fun j hj => ?_⟩
  have h1 := h.cell (i := j * 2) (by omega)
  have h2 := h.cell (i := j * 2 + 1) (by omega)
  unfold stc at h1 h2
  rw [if_pos (by omega), if_pos (by omega), show j * 2 / 2 = j by omega, List.getElem?_eq_getElem hj] at h1
  rw [if_pos (by omega), if_neg (by omega), show (j * 2 + 1) / 2 = j by omega, List.getElem?_eq_getElem hj] at h2
  exact ⟨h1, h2⟩

end
end Vol
end Go.Proofs.YtleehhpodgbomaaGreatDoor
/- The medium's lines, and its write. -/
namespace Go.Proofs.YtleehhpodgbomaaGreatDoor
open Go.RowKit Go.MapKept
namespace Vol

theorem compact_le (zs : List Int) : (Lib.compact zs).length ≤ zs.length := by
  unfold Lib.compact Lib.compactUpTo
  rw [List.length_map]
  exact Nat.le_trans (List.length_filter_le _ _) (by rw [List.length_range]; exact Nat.le_refl _)

theorem compact_any {w : World} {B n c : Nat} {G : Option Addr} {zs : List Int} (h : w.ownsRow B 3 1 (.slice G n c) n (Pack.i64s zs)) (hB : B ≤ w.heap.size) (hn : n ≤ 4194304) :
    Calls Tryz.prog 104 #[.slice G n c] w fun r w' => ∃ (G' : Option Addr) (c' : Nat), r = .returned (.slice G' (Lib.compact zs).length c') ∧ w'.ownsRow B 3 1 (.slice G' (Lib.compact zs).length c') (Lib.compact zs).length (Pack.i64s (Lib.compact zs)) ∧ Below B w w' := by
  have hl : zs.length = n := by simpa [Pack.i64s] using h.1
  by_cases hv : (Value.slice G n c) = .slice none 0 0
  · injection hv with h1 h2 h3
    subst h1 h2 h3
    obtain rfl : zs = [] := List.length_eq_zero_iff.1 hl
    refine (AnyG.slices_Compact_int_empty Tryz.compactA none 0 w).mono ?_
    rintro r w' ⟨rfl, rfl⟩
    exact ⟨none, 0, rfl, World.ownsRow_nil _ _ _ _, Below.refl _ _⟩
  · obtain ⟨g, cap, he, hb, hg, hnc, hcm, hl2, hH⟩ := Lib.holds_of_ownsRow (enc := Value.int .i64) h hv
    injection he with h1 h2 h3
    subst h1 h3
    have hc := AnyG.slices_Compact_int Tryz.compactA g 0 c zs w hH (by omega) (by omega)
    rw [hl] at hc
    refine hc.mono ?_
    rintro r w' ⟨rfl, q, rfl⟩
    have hle := compact_le zs
    have ho := Lib.ownsRow_putRow (q := q) (k := (Lib.compact zs).length) (ys := Lib.compact zs ++ List.replicate (n - (Lib.compact zs).length) 0) h (by simp; omega) (by omega)
    rw [List.take_left' rfl] at ho
    exact ⟨_, _, rfl, ho, Lib.below_putRow (Below.refl _ _) hb⟩

/-- ints as they lie in a row of the call's own -/
def Ints (w0 w : World) (G : Option Addr) (l : List Int) : Prop := ∀ j (h : j < l.length), ∃ g, G = some ⟨g, 0, none⟩ ∧ w0.heap.size ≤ g ∧ g < w.heap.size ∧ w.cell? ⟨g, j, none⟩ = some (.int .i64 l[j])
theorem ints_own {w0 w : World} {n c : Nat} {G : Option Addr} {l : List Int} (h : w.ownsRow w0.heap.size 3 1 (.slice G n c) n (Pack.i64s l)) : Ints w0 w G l := by
  intro j hj
  have hl : l.length = n := by simpa [Pack.i64s] using h.1
  obtain ⟨g, e, hg, hc⟩ := Pack.own_cells h j (by omega)
  refine ⟨g, e, Pack.row_base_lt h (by rw [e]; rfl), hg, ?_⟩
  rw [Nat.zero_add] at hc
  rw [hc]
  simp [Pack.i64s, hj]

theorem i64s_lin {l : List (Nat × Nat)} {m : Nat} (h : m < l.length) : Pack.i64s (lin (l.take (m + 1))) = Pack.i64s (lin (l.take m)) ++ [.int .i64 ((l[m].1 / 8 : Nat) : Int)] := by
  unfold Pack.i64s lin
  rw [List.take_succ_eq_append_getElem h, List.map_append, List.map_append]
  rfl

set_option maxHeartbeats 4000000 in
set_option maxRecDepth 100000 in
theorem linesOf_any (w : World) (g c : Nat) (l : List (Nat × Nat)) (h : Sts w g l) (hl : l.length ≤ 4194304) (hs : ∀ p ∈ l, p.1 ≤ 10000000) :
    Calls Tryz.prog 69 #[.slice (some ⟨g, 0, none⟩) l.length c] w fun r w' => ∃ (G : Option Addr) (gc : Nat), r = .returned (.slice G (lns l).length gc) ∧ Ints w w' G (lns l) ∧ Below w.heap.size w w' := by
  have H := Lib.hid h
  have HS := Lib.hid hs
  clear h hs
  go_enter Tryz.func69, Tryz.ntmps69
  go_wp2
  go_loopw [3, 8] (fun v i wr => ∃ (k : Nat) (G : Option Addr) (gc : Nat), k ≤ l.length ∧ i = .int .i64 (k : Int) ∧ v = .slice G k gc ∧ wr.ownsRow w.heap.size 3 1 (.slice G k gc) k (Pack.i64s (lin (l.take k))) ∧ Below w.heap.size w wr) (fun _ i _ => l.length - (intOf i).toNat)
  case atStart => exact ⟨0, none, 0, Nat.zero_le _, rfl, rfl, World.ownsRow_nil _ _ _ _, Below.refl _ _⟩
  case round =>
    obtain ⟨k, G, gc, hk, rfl, rfl, hown, hbel⟩ := hrel
    have HOW := Lib.hid hown
    have HBW := Lib.hid hbel
    by_cases hlt : k < l.length
    · have HI := Lib.hid (i64s_lin hlt)
      obtain ⟨hc0, hc1⟩ := (H.out.keep hbel).at' k hlt
      have hxs := HS.out _ (List.getElem_mem hlt)
      have hsz := hbel.size
      have hgl := H.out.lt
      clear hown hbel
      generalize l[k] = p at *
      obtain ⟨x, y⟩ := p
      simp only at hc0 hc1 hxs HI
      obtain ⟨i1, hi1, hy0, hy1, hy2⟩ := info_parts Pm.int_info
      have hi0 : (0 : Int) ≤ (k : Int) := by omega
      have hi2 : (k : Int) < (l.length : Int) := by omega
      have HO := Lib.hid ((HOW.out.alloc (.cells #[.int .i64 (x : Int), .int .u64 (y : Int)] 106)).alloc (.cells #[.int .i64 ((x : Int) / 8)] 3))
      have HB := Lib.hid ((HBW.out.alloc HBW.out.size (.cells #[.int .i64 (x : Int), .int .u64 (y : Int)] 106)).alloc (by have := HBW.out.size; simp; omega) (.cells #[.int .i64 ((x : Int) / 8)] 3))
      go_wp2_with (at_builtin
                   refine wpList_append_own_at _ rfl (.tmp 12) (.tmp 16) 33 rfl w.heap.size 3 i1 (.int .i64 0) 1 8 Tryz.underlying33 hi1 hy0 hy1 hy2 rfl (by decide) (.slice G k gc) k (Pack.i64s (lin (l.take k))) rfl HO.out ⟨wr.heap.size + 1, 0, none⟩ 1 1 [.int .i64 ((x : Int) / 8)] rfl rfl (Pm.cell_one_new2 _ _ _ _) (by simp [Value.oneCell']) (by unfold maxLen; omega) (by omega) (by simp; omega) ?_
                   intro v' w3 hown3 hgr3 _ hat3
                   obtain ⟨G3, c3, rfl⟩ := Pack.row_slice hown3
                   have HO3 := Lib.hid hown3
                   have HB3 := Lib.hid (HB.out.grown hgr3 (by simp; omega) (fun k hk => Pack.row_base_lt HOW.out hk))
                   clear hown3 hgr3 hat3)
      refine ⟨⟨k + 1, G3, c3, by omega, by go_num, rfl, ?_, HB3.out⟩, by simp [intOf]; omega⟩
      rw [HI.out]
      exact HO3.out
    · obtain rfl : k = l.length := by omega
      rw [List.take_length] at hown
      have HC := Lib.hid (compact_any hown hbel.size hl)
      clear hown hbel HOW
      go_wp2_with fail
      refine HC.out.mono ?_
      rintro r w3 ⟨G', c', rfl, hown, hb⟩
      have HI := Lib.hid (ints_own (w0 := w) hown)
      have HB := Lib.hid (HBW.out.trans hb)
      clear hown hb HC
      go_wp2
      go_ret
      exact ⟨G', c', rfl, HI.out, HB.out⟩
end Vol
end Go.Proofs.YtleehhpodgbomaaGreatDoor
/- The medium's write: words are stored, then their lines are flushed. -/
namespace Go.Proofs.YtleehhpodgbomaaGreatDoor
open Go.RowKit Go.MapKept
namespace Vol
section
variable {Q : Nat → Prop} {w : World} {a : Nat} {W : List Nat} {st sn : Nat}

/-- behind k stores -/
structure Wr (Q : Nat → Prop) (w : World) (a b g : Nat) (W : List Nat) (st sn : Nat) (l : List (Nat × Nat)) (w' : World) : Prop where
  up : Up Q w' a W st sn
  kq : Kq Q w w'
  box : Bx w' b a
  sts : Sts w' g l

theorem Ints.kq {w0 w1 w2 : World} {G : Option Addr} {l : List Int} (h : Ints w0 w1 G l) (hk : Kq Q w1 w2) (hq : ∀ k, w0.heap.size ≤ k → k < w1.heap.size → Q k) : Ints w0 w2 G l := by
  intro j hj
  obtain ⟨g, e, h1, h2, hc⟩ := h j hj
  have hb := hk.at (hq g h1 h2) h2
  exact ⟨g, e, h1, Nat.lt_of_lt_of_le h2 hk.size, (World.cell?_of_block (w := w1) hb).trans hc⟩
/-- behind k lines -/
structure Wl (Q : Nat → Prop) (w0 w : World) (a b : Nat) (W : List Nat) (st sn : Nat) (G : Option Addr) (l : List Int) (w' : World) : Prop where
  up : Up Q w' a W st sn
  kq : Kq Q w w'
  box : Bx w' b a
  ints : Ints w0 w' G l

set_option maxHeartbeats 4000000 in
set_option maxRecDepth 100000 in
theorem write_any (h : Up Q w a W st sn) (g c : Nat) (l : List (Nat × Nat)) (hg : Sts w g l) (hq : Q g) (hW : ∀ p ∈ l, p.1 < W.length ∧ p.2 < 18446744073709551616) (hs : st + 2 * l.length < 100000000000) (hln : l.length ≤ 4194304) :
    Calls Tryz.prog 42 #[.agg #[.pointer (some ⟨a, 0, none⟩)], .slice (some ⟨g, 0, none⟩) l.length c] w fun r w' =>
      r = .returned (.int .i64 0) ∧ Up Q w' a (puts W l) (st + l.length + (lns l).length) (sn + l.length) ∧ Kq Q w w' := by
  have hl : l.length < 100000000000 := by omega
  have hsz := h.size
  have HU := Lib.hid h.u64
  have HW := Lib.hid hW
  have hb0 := (Below.refl w.heap.size w).alloc (Nat.le_refl _) (.cells #[.pointer (some ⟨a, 0, none⟩)] 95)
  have HX := Lib.hid (bx_new w a 95)
  have HG := Lib.hid (hg.keep hb0)
  have HUP := Lib.hid (h.grow hb0)
  have HB0 := Lib.hid hb0
  have HQ := Lib.hid hq
  have HZ := Lib.hid (World.size_alloc w (.cells #[.pointer (some ⟨a, 0, none⟩)] 95))
  clear h hg hq hW hb0
  go_enter Tryz.func42, Tryz.ntmps42
  go_wp2
  generalize w.alloc (.cells #[.pointer (some ⟨a, 0, none⟩)] 95) = w1 at *
  obtain ⟨Q1, hQ1⟩ : ∃ Q1 : Nat → Prop, Q1 = fun k => Q k ∨ (w.heap.size ≤ k ∧ k < w1.heap.size) := ⟨_, rfl⟩
  rw [← hQ1] at HUP
  have HQS := Lib.hid (show ∀ k, Q k → Q1 k by rw [hQ1]; exact fun k h => .inl h)
  have HQB := Lib.hid (show Q1 w.heap.size by rw [hQ1]; exact .inr ⟨Nat.le_refl _, HX.out.lt⟩)
  have HQG := Lib.hid (HQS.out _ HQ.out)
  clear hQ1
  have HR := Lib.hid (show Wr Q1 w1 a w.heap.size g (puts W (l.take 0)) (st + 0) (sn + 0) l w1 from ⟨HUP.out, Pm.Off.refl _ _, HX.out, HG.out⟩)
  clear HUP HX HG
  go_loopw [11] (fun i wr => ∃ (k : Nat), k ≤ l.length ∧ i = .int .i64 (k : Int) ∧ Wr Q1 w1 a w.heap.size g (puts W (l.take k)) (st + k) (sn + k) l wr) (fun i _ => l.length - (intOf i).toNat)
  case atStart => exact ⟨0, Nat.zero_le _, rfl, HR.out⟩
  case round =>
    obtain ⟨k, hk, rfl, hrs⟩ := hrel
    have HS := Lib.hid hrs
    clear hrs HR
    by_cases hlt : k < l.length
    · obtain ⟨hc0, hc1⟩ := HS.out.sts.at' k hlt
      have hbx := HS.out.box.c0
      have hgl := HS.out.sts.lt
      have hbl := HS.out.box.lt
      obtain ⟨hw1, hw2⟩ := HW.out _ (List.getElem_mem hlt)
      have HP := Lib.hid (puts_step W l k hlt)
      generalize l[k] = p at *
      obtain ⟨x, y⟩ := p
      simp only at hc0 hc1 hw1 hw2 HP
      have hb := (Below.refl wr.heap.size wr).alloc (Nat.le_refl _) (.cells #[.int .i64 (x : Int), .int .u64 (y : Int)] 106)
      have hup := HS.out.up.keep hb
      have HC := Lib.hid (up_store hup x y (by rw [puts_len]; exact hw1) hw2 (by omega))
      have HB := Lib.hid hb
      have HX := Lib.hid (HS.out.box.keep hb)
      have HG := Lib.hid (HS.out.sts.keep hb)
      have hi0 : (0 : Int) ≤ (k : Int) := by omega
      have hi1 : (k : Int) < (l.length : Int) := by omega
      clear hup hb
      go_wp2_with fail
      refine HC.out.mono ?_
      rintro e w2 ⟨rfl, hu2, hk2⟩
      have HS2 := Lib.hid (show Wr Q1 w1 a w.heap.size g (puts W (l.take (k + 1))) (st + (k + 1)) (sn + (k + 1)) l w2 from
        ⟨by rw [HP.out]; exact hu2, HS.out.kq.trans ((kq_below HB.out).trans hk2), HX.out.kq hk2 HQB.out, HG.out.kq hk2 HQG.out⟩)
      clear hu2 hk2 HC
      go_wp2
      refine ⟨⟨k + 1, by omega, by go_num, HS2.out⟩, by simp [intOf]; omega⟩
    · obtain rfl : k = l.length := by omega
      obtain ⟨wo, hwo⟩ : ∃ wo, wo = wr := ⟨_, rfl⟩
      rw [← hwo] at HS ⊢
      clear hwo
      have HC := Lib.hid (linesOf_any wo g c l HS.out.sts hln (fun p hp => by have := (HW.out p hp).1; omega))
      go_wp2_with fail
      refine HC.out.mono ?_
      rintro r w3 ⟨G, gc, rfl, hin, hb⟩
      rw [List.take_length] at HS
      obtain ⟨Q2, hQ2⟩ : ∃ Q2 : Nat → Prop, Q2 = fun k => Q1 k ∨ (wo.heap.size ≤ k ∧ k < w3.heap.size) := ⟨_, rfl⟩
      have hup := HS.out.up.grow hb
      rw [← hQ2] at hup
      have HQ2 := Lib.hid (show ∀ k, Q1 k → Q2 k by rw [hQ2]; exact fun k h => .inl h)
      have HQL := Lib.hid (show ∀ k, wo.heap.size ≤ k → k < w3.heap.size → Q2 k by rw [hQ2]; exact fun k h1 h2 => .inr ⟨h1, h2⟩)
      clear hQ2
      have HL := Lib.hid (show Wl Q2 wo w3 a w.heap.size (puts W l) (st + l.length + 0) (sn + l.length) G (lns l) w3 from ⟨hup, Pm.Off.refl _ _, HS.out.box.keep hb, hin⟩)
      have HIN := Lib.hid hin
      have HKA := Lib.hid (HS.out.kq.trans (kq_below hb))
      have HM := Lib.hid (lns_mem l)
      have hml := lns_le l
      clear hup hin hb HC HS
      obtain ⟨L, hL⟩ : ∃ L, L = lns l := ⟨_, rfl⟩
      rw [← hL] at HL HM hml HIN
      have HLL := Lib.hid hL
      rw [← hL]
      clear hL
      go_wp2
      go_loopw [27] (fun i ww => ∃ (j : Nat), j ≤ L.length ∧ i = .int .i64 (j : Int) ∧ Wl Q2 wo w3 a w.heap.size (puts W l) (st + l.length + j) (sn + l.length) G L ww) (fun i _ => L.length - (intOf i).toNat)
      case atStart => exact ⟨0, Nat.zero_le _, rfl, HL.out⟩
      case round =>
        obtain ⟨j, hj, rfl, hrs⟩ := hrel
        have HS := Lib.hid hrs
        clear hrs HL
        by_cases hjl : j < L.length
        · obtain ⟨g', rfl, hg1, hg2, hcl⟩ := HS.out.ints j hjl
          obtain ⟨p, hp, hpe⟩ := HM.out _ (List.getElem_mem hjl)
          have hpl := (HW.out p hp).1
          rw [hpe] at hcl
          clear hpe hp
          generalize hq : p.1 / 8 = q at *
          have HC := Lib.hid (up_flush HS.out.up q (by rw [puts_len]; omega) (by omega))
          have hbx := HS.out.box.c0
          have hbl := HS.out.box.lt
          have hi0 : (0 : Int) ≤ (j : Int) := by omega
          have hi1 : (j : Int) < (L.length : Int) := by omega
          clear hq hpl
          go_wp2_with fail
          refine HC.out.mono ?_
          rintro e w5 ⟨rfl, hu5, hk5⟩
          have HS5 := Lib.hid (show Wl Q2 wo w3 a w.heap.size (puts W l) (st + l.length + (j + 1)) (sn + l.length) (some ⟨g', 0, none⟩) L w5 from
            ⟨hu5, HS.out.kq.trans hk5, HS.out.box.kq hk5 (HQ2.out _ HQB.out), ?_⟩)
          · clear hu5 hk5 HC
            go_wp2
            refine ⟨⟨j + 1, by omega, by go_num, HS5.out⟩, by simp [intOf]; omega⟩
          · exact HIN.out.kq (HS.out.kq.trans hk5) HQL.out
        · obtain rfl : j = L.length := by omega
          go_wp2
          go_ret
          refine ⟨rfl, by rw [← HLL.out]; exact HS.out.up.sub (fun k h => HQ2.out k (HQS.out k h)), ?_⟩
          exact (kq_below HB0.out).trans ((HKA.out.sub HQS.out).trans (HS.out.kq.sub (fun k h => HQ2.out k (HQS.out k h))))
end
end Vol
end Go.Proofs.YtleehhpodgbomaaGreatDoor
/- A volume: Open, Geometry, Device. -/
namespace Go.Proofs.YtleehhpodgbomaaGreatDoor
open Go.RowKit Go.MapKept
namespace Vol
section
variable {Q Q' : Nat → Prop} {w w' : World} {vb a n m s : Nat} {W : List Nat} {st sn : Nat}

/-- a volume in block vb, over the device in block a: its geometry, its words, its device's steps and stores -/
structure Vo (Q : Nat → Prop) (w : World) (vb a n m s : Nat) (W : List Nat) (st sn : Nat) : Prop where
  vol : w.heap[vb]? = some (.cells #[.pointer (some ⟨a, 0, none⟩), .int .i64 (n : Int), .int .i64 (m : Int), .int .i64 (s : Int)] 97 (0, 0))
  q : Q vb
  up : Up Q w a W st sn
  may : Geo.may n m s = true
  len : (W.length : Int) = Geo.fin n m s
theorem Vo.lt (h : Vo Q w vb a n m s W st sn) : vb < w.heap.size := Pm.lt_of_some h.vol
theorem Vo.keep (h : Vo Q w vb a n m s W st sn) (hb : Below w.heap.size w w') : Vo Q w' vb a n m s W st sn := ⟨(hb.block vb h.lt).trans h.vol, h.q, h.up.keep hb, h.may, h.len⟩
theorem Vo.grow (h : Vo Q w vb a n m s W st sn) (hb : Below w.heap.size w w') : Vo (fun k => Q k ∨ (w.heap.size ≤ k ∧ k < w'.heap.size)) w' vb a n m s W st sn := ⟨(hb.block vb h.lt).trans h.vol, .inl h.q, h.up.grow hb, h.may, h.len⟩
theorem Vo.sub (h : Vo Q w vb a n m s W st sn) (hs : ∀ k, Q' k → Q k) (hq : Q' vb) : Vo Q' w vb a n m s W st sn := ⟨h.vol, hq, h.up.sub hs, h.may, h.len⟩
theorem Vo.cells (h : Vo Q w vb a n m s W st sn) : w.cell? ⟨vb, 0, none⟩ = some (.pointer (some ⟨a, 0, none⟩)) ∧ w.cell? ⟨vb, 1, none⟩ = some (.int .i64 (n : Int)) ∧ w.cell? ⟨vb, 2, none⟩ = some (.int .i64 (m : Int)) ∧ w.cell? ⟨vb, 3, none⟩ = some (.int .i64 (s : Int)) :=
  ⟨Pm.blk_cell h.vol 0, Pm.blk_cell h.vol 1, Pm.blk_cell h.vol 2, Pm.blk_cell h.vol 3⟩
/-- behind a device's call -/
theorem Vo.next (h : Vo Q w vb a n m s W st sn) {W' : List Nat} {st' sn' : Nat} (hu : Up Q w' a W' st' sn') (hk : Kq Q w w') (hl : W'.length = W.length) : Vo Q w' vb a n m s W' st' sn' :=
  ⟨(hk.at h.q h.lt).trans h.vol, h.q, hu, h.may, by rw [hl]; exact h.len⟩

theorem up_read (h : Up Q w a W st sn) (hm : Geo.may n m s = true) (hl : (W.length : Int) = Geo.fin n m s) (h8 : rdw W 0 8 = Sup.sb n m s) :
    Calls Tryz.prog 55 #[.pointer (some ⟨a, 0, none⟩)] w fun r w' => r = .returned (.tuple #[.agg #[.int .i64 (n : Int), .int .i64 (m : Int), .int .i64 (s : Int)], .int .i64 0]) ∧ Below w.heap.size w w' := by
  obtain ⟨A, hv, _, hw, h64, _⟩ := h
  have hu : Sup.U64 A.words := by
    intro x hx
    rw [hw] at hx
    obtain ⟨y, hy, rfl⟩ := List.mem_map.1 hx
    have := h64 y hy
    simp only [Int.ofNat_eq_natCast]
    omega
  have hr := Sup.read_any hv.ses hu
  have e : Sup.rd A = rdw W 0 8 := by
    refine List.ext_getElem (by rw [Sup.rd_len, rdw_len]) (fun i h1 h2 => ?_)
    rw [rdw_get]
    have h3 : i < 8 := by rwa [Sup.rd_len] at h1
    have := Sup.rd_get A h3
    rw [List.getElem?_eq_getElem h1] at this
    refine Eq.trans (b := (A.words[i]?.getD 0).toNat) (by simpa using this) ?_
    rw [hw, List.getElem?_map, Nat.zero_add]
    cases W[i]? with
    | none => rfl
    | some y => simp
  have hon : Sup.ron (Sup.rd A) A.words.length = some (n, m, s) := by
    rw [e, h8]
    unfold Sup.ron
    rw [Sup.dec_sb hm]
    simp only
    rw [if_pos (by rw [hw, List.length_map]; exact hl.symm)]
  rw [hon] at hr
  exact hr

set_option maxHeartbeats 4000000 in
set_option maxRecDepth 100000 in
theorem open_any (h : Up Q w a W st sn) (hm : Geo.may n m s = true) (hl : (W.length : Int) = Geo.fin n m s) (h8 : rdw W 0 8 = Sup.sb n m s) :
    Calls Tryz.prog 28 #[.pointer (some ⟨a, 0, none⟩)] w fun r w' => ∃ vb, r = .returned (.tuple #[.pointer (some ⟨vb, 0, none⟩), .int .i64 0]) ∧ w.heap.size ≤ vb ∧
      Vo (fun k => Q k ∨ (w.heap.size ≤ k ∧ k < w'.heap.size)) w' vb a n m s W st sn ∧ Below w.heap.size w w' := by
  have HC := Lib.hid (up_read h hm hl h8)
  have H := Lib.hid h
  have HM := Lib.hid hm
  have HL := Lib.hid hl
  clear h hm hl h8
  go_enter Tryz.func28, Tryz.ntmps28
  go_wp2_with fail
  refine HC.out.mono ?_
  rintro r w1 ⟨rfl, hb⟩
  have HB := Lib.hid hb
  clear hb HC
  go_wp2
  go_ret2
  have hb0 := HB.out.alloc HB.out.size (.cells #[.int .i64 (n : Int), .int .i64 (m : Int), .int .i64 (s : Int)] 80)
  have hz := World.size_alloc w1 (.cells #[.int .i64 (n : Int), .int .i64 (m : Int), .int .i64 (s : Int)] 80)
  generalize w1.alloc (.cells #[.int .i64 (n : Int), .int .i64 (m : Int), .int .i64 (s : Int)] 80) = w2 at *
  have hb1 := hb0.alloc hb0.size (.cells #[.pointer (some ⟨a, 0, none⟩), .int .i64 (n : Int), .int .i64 (m : Int), .int .i64 (s : Int)] 97)
  refine ⟨w1.heap.size + 1, rfl, Nat.le_succ_of_le HB.out.size, ⟨?_, .inr ⟨Nat.le_succ_of_le HB.out.size, by simp; omega⟩, H.out.grow hb1, HM.out, HL.out⟩, hb1⟩
  have := (heap_alloc w2 (.cells #[.pointer (some ⟨a, 0, none⟩), .int .i64 (n : Int), .int .i64 (m : Int), .int .i64 (s : Int)] 97)).1
  rw [hz] at this
  exact this

set_option maxHeartbeats 4000000 in
set_option maxRecDepth 100000 in
theorem geometry_any (h : Vo Q w vb a n m s W st sn) : Calls Tryz.prog 29 #[.pointer (some ⟨vb, 0, none⟩)] w fun r w' => r = .returned (.agg #[.int .i64 (n : Int), .int .i64 (m : Int), .int .i64 (s : Int)]) ∧ Below w.heap.size w w' := by
  obtain ⟨c0, c1, c2, c3⟩ := h.cells
  have hlt := h.lt
  clear h
  go_enter Tryz.func29, Tryz.ntmps29
  go_wp2
  refine bodyPost_ret (v := .agg #[.int .i64 (n : Int), .int .i64 (m : Int), .int .i64 (s : Int)]) ?_ rfl ⟨rfl, ?_⟩
  · simp [results, Tryz.results29, go_sem]
  · exact (Below.refl _ _).alloc (Nat.le_refl _) _
theorem device_any (h : Vo Q w vb a n m s W st sn) : Calls Tryz.prog 20 #[.pointer (some ⟨vb, 0, none⟩)] w fun r w' => r = .returned (.pointer (some ⟨a, 0, none⟩)) ∧ w = w' := by
  obtain ⟨c0, c1, c2, c3⟩ := h.cells
  have hlt := h.lt
  clear h
  go_enter Tryz.func20, Tryz.ntmps20
  go_wp2
  go_ret
  exact ⟨rfl, rfl⟩
theorem isNone_any (w : World) (p : Int) : Calls Tryz.prog 40 #[.int .i64 p] w fun r w' => r = .returned (.bool (decide (p < 0))) ∧ w = w' := by
  go_enter Tryz.func40, Tryz.ntmps40
  go_wp2
  go_ret
  exact ⟨rfl, rfl⟩
end
end Vol
end Go.Proofs.YtleehhpodgbomaaGreatDoor
/- Law 15's Raw: its geometry, the document's volume. -/
namespace Go.Proofs.YtleehhpodgbomaaGreatDoor
open Go.RowKit Go.MapKept
namespace Vol

/-- a small geometry's places, as natural numbers -/
structure Pl (n m s sl bm bk E : Nat) : Prop where
  may : Geo.may n m s = true
  e1 : 16 + (m : Int) * 8 = (sl : Int)
  e2 : Geo.bmAt n m = (bm : Int)
  e3 : Geo.bkAt n m = (bk : Int)
  e4 : Geo.fin n m s = (E : Int)
  n20 : 1 ≤ n ∧ n ≤ 20
  m20 : 1 ≤ m ∧ m ≤ 20
  s2 : s = 64 ∨ s = 128

def gn (x : Nat) : Nat := 1 + x % 20
def gs (x : Nat) : Nat := 64 * 2 ^ (x % 2)
theorem gs_cases (x : Nat) : gs x = 64 ∨ gs x = 128 := by
  unfold gs
  have : x % 2 = 0 ∨ x % 2 = 1 := by omega
  rcases this with h | h <;> rw [h] <;> simp
theorem pl_any (n m k : Nat) : ∃ sl bm bk E, Pl (gn n) (gn m) (gs k) sl bm bk E := by
  have h1 : 1 ≤ gn n ∧ gn n ≤ 20 := by unfold gn; omega
  have h2 : 1 ≤ gn m ∧ gn m ≤ 20 := by unfold gn; omega
  have h3 := gs_cases k
  generalize gn n = N at *
  generalize gn m = M at *
  generalize gs k = S at *
  refine ⟨16 + M * 8, 16 + M * 8 + (N + 7) / 8 * 8, 16 + M * 8 + (N + 7) / 8 * 8 + ((N + 63) / 64 + 7) / 8 * 8, 16 + M * 8 + (N + 7) / 8 * 8 + ((N + 63) / 64 + 7) / 8 * 8 + N * (S / 8), ?_, ?_, ?_, ?_, ?_, h1, h2, h3⟩
  · refine Geo.may_yes ⟨⟨by omega, by omega, ?_⟩, ?_⟩
    · unfold Geo.Sz
      omega
    · unfold Geo.fin Geo.bkAt Geo.bmAt Geo.lines
      rcases h3 with h | h <;> rw [h] <;> omega
  · omega
  · unfold Geo.bmAt Geo.lines
    omega
  · unfold Geo.bkAt Geo.bmAt Geo.lines
    omega
  · unfold Geo.fin Geo.bkAt Geo.bmAt Geo.lines
    simp

section
variable {n m s sl bm bk E : Nat}
/-- all places, by the numbers -/
theorem Pl.at (h : Pl n m s sl bm bk E) : sl = 16 + m * 8 ∧ bm = sl + 8 * ((n + 7) / 8) ∧ bk = bm + 8 ∧ E = bk + n * (s / 8) ∧ E ≤ 540 := by
  have h1 := h.e1
  have h2 := h.e2
  have h3 := h.e3
  have h4 := h.e4
  have h5 := h.n20
  have h6 := h.m20
  unfold Geo.fin at h4
  unfold Geo.bkAt at h3 h4
  unfold Geo.bmAt at h2 h3 h4
  unfold Geo.lines at h2 h3 h4
  rcases h.s2 with h7 | h7 <;> subst h7 <;> refine ⟨by omega, by omega, by omega, ?_, ?_⟩ <;> omega
end

/-- a block's cells -/
def Hb (w : World) (b : Nat) (cs : Array Value) (t : TypeId) : Prop := w.heap[b]? = some (.cells cs t (0, 0))
section
variable {w w' : World} {b : Nat} {cs : Array Value} {t : TypeId}
theorem Hb.lt (h : Hb w b cs t) : b < w.heap.size := Pm.lt_of_some h
theorem Hb.of_block (h : Hb w b cs t) (e : w'.heap[b]? = w.heap[b]?) : Hb w' b cs t := e.trans h
theorem Hb.keep (h : Hb w b cs t) (hb : Below w.heap.size w w') : Hb w' b cs t := (hb.block b h.lt).trans h
theorem Hb.below {B : Nat} (h : Hb w b cs t) (hb : Below B w w') (hB : b < B) : Hb w' b cs t := (hb.block b hB).trans h
theorem Hb.kq {Q : Nat → Prop} (h : Hb w b cs t) (hk : Kq Q w w') (hq : Q b) : Hb w' b cs t := (hk.at hq h.lt).trans h
theorem Hb.cell (h : Hb w b cs t) (i : Nat) : w.cell? ⟨b, i, none⟩ = cs[i]? := Pm.blk_cell h i
theorem Hb.frozen (h : Hb w b cs t) (i : Nat) : w.frozen? ⟨b, i, none⟩ = false := Pm.blk_frozen h i
theorem Hb.set (h : Hb w b cs t) (i : Nat) (u : Value) : Hb (w.setCell ⟨b, i, none⟩ u) b (cs.setIfInBounds i u) t := Pm.blk_set h i u
theorem Hb.far (h : Hb w b cs t) {p : Addr} (hp : b ≠ p.block) (u : Value) : Hb (w.setCell p u) b cs t := Pm.blk_far h hp u
theorem hb_new (w : World) (cs : Array Value) (t : TypeId) : Hb (w.alloc (.cells cs t)) w.heap.size cs t := (heap_alloc w _).1
theorem hb_grown {row : Option Nat} (h : Hb w b cs t) (hg : w.grownBy w' row) (hr : row ≠ some b) : Hb w' b cs t := (hg.block b h.lt (fun e => hr e.symm)).trans h
theorem hb_apart {B n : Nat} {e : TypeId} {v : Value} {xs : List Value} (h : Hb w b cs t) (ho : w.ownsRow B e 1 v n xs) (ht : e ≠ t) : v.ownBlock ≠ some b := by
  rcases ho.2 with ⟨e1, _⟩ | ⟨g, cap, cur, e1, _, hg, _⟩
  · rw [e1]; simp [Value.ownBlock]
  · rw [e1]
    simp only [Value.ownBlock, ne_eq, Option.some.injEq]
    exact Pm.blk_ne hg h ht
theorem Hb.drewN (h : Hb w b cs t) (n : Nat) : Hb (w.drewN n) b cs t := h
end

/-- the document's volume, as a value's cells -/
def dv (n m s sl bm bk E : Nat) (v : Value) : Array Value := #[.int .i64 (n : Int), .int .i64 (m : Int), .int .i64 (s : Int), .int .i64 16, .int .i64 (sl : Int), .int .i64 (bm : Int), .int .i64 (bk : Int), .int .i64 (E : Int), v]

section
variable {w : World} {n m s sl bm bk E : Nat}
set_option maxHeartbeats 4000000 in
set_option maxRecDepth 100000 in
theorem refOf_any (w : World) (h : Pl n m s sl bm bk E) : Calls Tryz.prog 53 #[.int .i64 (n : Int), .int .i64 (m : Int), .int .i64 (s : Int), .slice none 0 0] w fun r w' => r = .returned (.agg (dv n m s sl bm bk E (.slice none 0 0))) ∧ Below w.heap.size w w' := by
  have hof := fun w => Geo.of_any w (n : Int) (m : Int) (s : Int)
  rw [h.may, Geo.parts_yes h.may, h.e1, h.e2, h.e3, h.e4] at hof
  have HO := Lib.hid hof
  clear hof h
  unfold dv
  go_enter Tryz.func53, Tryz.ntmps53
  have hz0 := (heap_alloc w (.cells #[.int .i64 0, .int .i64 0, .int .i64 0, .int .i64 0, .int .i64 0, .int .i64 0, .int .i64 0, .int .i64 0, .slice none 0 0] 30)).1
  have HB0 := Lib.hid ((Below.refl w.heap.size w).alloc (Nat.le_refl _) (.cells #[.int .i64 0, .int .i64 0, .int .i64 0, .int .i64 0, .int .i64 0, .int .i64 0, .int .i64 0, .int .i64 0, .slice none 0 0] 30))
  have HZ := Lib.hid hz0
  clear hz0
  go_wp2_with fail
  generalize w.alloc (.cells #[.int .i64 0, .int .i64 0, .int .i64 0, .int .i64 0, .int .i64 0, .int .i64 0, .int .i64 0, .int .i64 0, .slice none 0 0] 30) = w0 at *
  refine (HO.out _).mono ?_
  rintro r w1 ⟨rfl, hb⟩
  have HB := Lib.hid (HB0.out.trans (hb.mono HB0.out.size))
  have hblk := (hb.block w.heap.size (Pm.lt_of_some HZ.out)).trans HZ.out
  have hl := Pm.lt_of_some hblk
  have c0 := Pm.blk_cell hblk 0
  have c1 := Pm.blk_cell hblk 1
  have c2 := Pm.blk_cell hblk 2
  have c3 := Pm.blk_cell hblk 3
  have c4 := Pm.blk_cell hblk 4
  have c5 := Pm.blk_cell hblk 5
  have c6 := Pm.blk_cell hblk 6
  have c7 := Pm.blk_cell hblk 7
  have c8 := Pm.blk_cell hblk 8
  have f0 := Pm.blk_frozen hblk 0
  have f1 := Pm.blk_frozen hblk 1
  have f2 := Pm.blk_frozen hblk 2
  have f3 := Pm.blk_frozen hblk 3
  have f4 := Pm.blk_frozen hblk 4
  have f5 := Pm.blk_frozen hblk 5
  have f6 := Pm.blk_frozen hblk 6
  have f7 := Pm.blk_frozen hblk 7
  have f8 := Pm.blk_frozen hblk 8
  clear hb hblk HO HZ HB0
  go_wp2
  refine bodyPost_ret (v := .agg #[.int .i64 (n : Int), .int .i64 (m : Int), .int .i64 (s : Int), .int .i64 16, .int .i64 (sl : Int), .int .i64 (bm : Int), .int .i64 (bk : Int), .int .i64 (E : Int), .slice none 0 0]) ?_ rfl ⟨rfl, ?_⟩
  · simp [results, Tryz.results53, go_sem, c0, c1, c2, c3, c4, c5, c6, c7, c8, hl]
  · have h9 := (((((((((HB.out.setCell (p := ⟨w.heap.size, 0, none⟩) (Nat.le_refl _) (.int .i64 (n : Int))).setCell (p := ⟨w.heap.size, 1, none⟩) (Nat.le_refl _) (.int .i64 (m : Int))).setCell (p := ⟨w.heap.size, 2, none⟩) (Nat.le_refl _) (.int .i64 (s : Int))).setCell (p := ⟨w.heap.size, 3, none⟩) (Nat.le_refl _) (.int .i64 16)).setCell (p := ⟨w.heap.size, 4, none⟩) (Nat.le_refl _) (.int .i64 (sl : Int))).setCell (p := ⟨w.heap.size, 5, none⟩) (Nat.le_refl _) (.int .i64 (bm : Int))).setCell (p := ⟨w.heap.size, 6, none⟩) (Nat.le_refl _) (.int .i64 (bk : Int))).setCell (p := ⟨w.heap.size, 7, none⟩) (Nat.le_refl _) (.int .i64 (E : Int))).setCell (p := ⟨w.heap.size, 8, none⟩) (Nat.le_refl _) (.slice none 0 0))
    exact h9.alloc h9.size _

set_option maxHeartbeats 4000000 in
set_option maxRecDepth 100000 in
theorem rgeo_any (w : World) (x y k : Nat) (hx : x < 256) (hy : y < 256) (hk : k < 256) (v : Value) : Calls Tryz.prog 51 #[.agg #[.int .u8 (x : Int), .int .u8 (y : Int), .int .u8 (k : Int), v]] w fun r w' => r = .returned (.agg #[.int .i64 (gn x : Nat), .int .i64 (gn y : Nat), .int .i64 (gs k : Nat)]) ∧ Below w.heap.size w w' := by
  go_enter Tryz.func51, Tryz.ntmps51
  go_wp2
  have e1 : (1 : Int) + (x : Int) % 20 = (gn x : Nat) := by unfold gn; omega
  have e2 : (1 : Int) + (y : Int) % 20 = (gn y : Nat) := by unfold gn; omega
  have e3 : wrap64 (64 * 2 ^ (k % 2)) = (gs k : Nat) := by
    have e : (64 : Int) * 2 ^ (k % 2) = (gs k : Nat) := by unfold gs; simp
    rw [e]
    refine IntWalk.wrap64_in _ ?_
    have := gs_cases k
    omega
  rw [e1, e2, e3]
  refine bodyPost_ret (v := .agg #[.int .i64 (gn x : Nat), .int .i64 (gn y : Nat), .int .i64 (gs k : Nat)]) ?_ rfl ⟨rfl, ?_⟩
  · simp [results, Tryz.results51, go_sem]
  · exact ((Below.refl _ _).alloc (Nat.le_refl _) _).alloc (by simp) _
end
end Vol
end Go.Proofs.YtleehhpodgbomaaGreatDoor
