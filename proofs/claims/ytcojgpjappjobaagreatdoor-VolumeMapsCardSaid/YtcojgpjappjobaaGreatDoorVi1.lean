/- Texts laid together: VolInode, VolInoEnc, VolInodesLaw, VolArgs2. -/
import Derived.Test.YtcojgpjappjobaaGreatDoorVs9
import Derived.Test.YtcojgpjappjobaaGreatDoorVs6
import Derived.Test.YtcojgpjappjobaaGreatDoorVs1
import Derived.Test.YtcojgpjappjobaaGreatDoorVs2
import Derived.Test.YtcojgpjappjobaaGreatDoorVs3
import Derived.Test.YtcojgpjappjobaaGreatDoorVs4
import Derived.Test.YtcojgpjappjobaaGreatDoorVs5
import Derived.Test.YtcojgpjappjobaaGreatDoorVs7
import Derived.Test.YtcojgpjappjobaaGreatDoorVs8
/- A volume's inodes: read and written. -/
namespace Go.Proofs.YtcojgpjappjobaaGreatDoor
open Go.RowKit Go.MapKept
namespace Vol
theorem row_words {w : World} {g n : Nat} {l : List Nat} (h : w.rowIs g 85 n (fun i => .int .u64 ((l[i]?.getD 0 : Nat) : Int))) (hl : l.length = n) (hn : n ≤ 4194304) (hu : ∀ x ∈ l, x < 18446744073709551616) : Pack.Wds w (some ⟨g, 0, none⟩) l :=
  ⟨hu, by omega, fun j hj => ⟨g, 0, rfl, h.lt, by
    rw [Nat.zero_add, h.cell (by omega), List.getElem?_eq_getElem hj]
    rfl⟩⟩
theorem bel_d (V : World) : Below V.heap.size V V.drew := ⟨rfl, rfl, rfl, Nat.le_refl _, fun _ _ => rfl⟩
/-- stores made of words, wherever they lie -/
theorem stores_at {w : World} {f L : Nat} {A : Option Addr} {c : Nat} {l : List Nat} (h : Pack.Wds w A l) (hl : l.length = L) (hf : f ≤ 10000000) (hL : L ≤ 4194304) {W : World} (hb : Below w.heap.size w W) :
    Calls Tryz.prog 89 #[.int .i64 (f : Int), .slice A L c] W fun r w' => ∃ gs, r = .returned (.slice (some ⟨gs, 0, none⟩) L L) ∧ W.heap.size ≤ gs ∧ Sts w' gs (sto f l) ∧ Below W.heap.size W w' := by
  have hs := storesOf_any (w := W) f A c l (h.keep hb) hf (by omega)
  rw [hl] at hs
  exact hs.mono fun r w' ⟨e, h1, _, h3⟩ => ⟨_, e, Nat.le_refl _, h1, h3⟩
section
variable {Q Q' : Nat → Prop} {w w' : World} {vb a n m s : Nat} {W : List Nat} {st sn : Nat}
/-- the stores of words, all at once -/
theorem write_sto (h : Vo Q w vb a n m s W st sn) {w1 w2 : World} (hb : Below w.heap.size w w1) {gs f L : Nat} {l : List Nat} (hg : w1.heap.size ≤ gs) (hS : Sts w2 gs (sto f l)) (hb2 : Below w1.heap.size w1 w2) (hl : l.length = L) (hin : f + L ≤ W.length) (hu : ∀ x ∈ l, x < 18446744073709551616) (hs : st + 2 * L < 100000000000) :
    Calls Tryz.prog 88 #[.agg #[.pointer (some ⟨a, 0, none⟩)], .slice (some ⟨gs, 0, none⟩) L L] w2 fun r w' =>
      r = .returned (.int .i64 0) ∧ Vo Q w' vb a n m s (puts W (sto f l)) (st + L + lc f L) (sn + L) ∧ Kq Q w w' := by
  have hsl : (sto f l).length = L := by rw [sto_len, hl]
  have hsz := h.up.size
  have hw := write_any ((h.up.keep hb).grow hb2) gs L (sto f l) hS (.inr ⟨hg, hS.lt⟩) (fun t ht => ⟨sto_lt (by rw [hl]; exact hin) t ht, sto_u64 hu t ht⟩) (by rw [hsl]; omega) (by rw [hsl]; omega)
  rw [hsl, sto_lc, hl] at hw
  refine hw.mono ?_
  rintro r w3 ⟨rfl, hup, hk⟩
  have hk2 := (kq_below (Q := Q) (hb.trans (hb2.mono hb.size))).trans (hk.sub (fun k h => .inl h))
  exact ⟨rfl, h.next (hup.sub (fun k h => .inl h)) hk2 (puts_len _ _), hk2⟩

theorem inode_place (h : Vo Q w vb a n m s W st sn) (i : Nat) (hi : i < m) (w' : World) : Calls Tryz.prog 59 #[.agg #[.int .i64 n, .int .i64 m, .int .i64 s], .int .i64 (i : Int)] w' fun r w'' => r = .returned (.int .i64 ((16 + 8 * i : Nat) : Int)) ∧ Below w'.heap.size w' w'' := by
  have hp := Geo.inode_any w' (n : Int) (m : Int) (s : Int) (i : Int)
  rw [Geo.plc_yes h.may (by omega) (by omega), show (16 : Int) + (i : Int) * 8 = ((16 + 8 * i : Nat) : Int) by omega] at hp
  exact hp
theorem inode_none {i : Int} (h : i < 0 ∨ (m : Int) ≤ i) (w : World) : Calls Tryz.prog 59 #[.agg #[.int .i64 n, .int .i64 m, .int .i64 s], .int .i64 i] w fun r w'' => r = .returned (.int .i64 (-1)) ∧ Below w.heap.size w w'' := by
  have hp := Geo.inode_any w (n : Int) (m : Int) (s : Int) i
  rw [Geo.plc_out (by omega)] at hp
  exact hp
/-- an inode's line is within -/
theorem inode_in (h : Vo Q w vb a n m s W st sn) {i : Nat} (hi : i < m) : 16 + 8 * i + 8 ≤ W.length ∧ i ≤ 65534 := by
  obtain ⟨h1, h2, h3⟩ := h.num
  have h4 := Geo.bm_bounds h1 h2
  have h5 := Geo.bk_bounds h1 h2
  have h6 := Geo.fin_bounds h1 h2 h3
  have h7 := h.len
  unfold Geo.fin at h7
  omega
theorem gv_ino (q : Option (Nat × Nat × Nat)) : ∃ x y z : Int, Ino.gv q = .agg #[.int .i64 x, .int .i64 y, .int .i64 z] := by
  cases q with
  | none => exact ⟨0, -1, 0, rfl⟩
  | some t => exact ⟨_, _, _, rfl⟩

set_option maxHeartbeats 4000000 in
set_option maxRecDepth 100000 in
theorem inode_no (h : Vo Q w vb a n m s W st sn) (i : Int) (hi : i < 0 ∨ (m : Int) ≤ i) :
    Calls Tryz.prog 15 #[.pointer (some ⟨vb, 0, none⟩), .int .i64 i] w fun r w' => r = .returned (.tuple #[.agg #[.int .i64 0, .int .i64 (-1), .int .i64 0], .int .i64 9]) ∧ Below w.heap.size w w' := by
  obtain ⟨c0, c1, c2, c3⟩ := h.cells
  have hlt := h.lt
  have HP := Lib.hid (fun w => inode_none (n := n) (s := s) hi w)
  have HN := Lib.hid (fun w => isNone_any w (-1))
  have HI := Lib.hid (fun w => Ino.none_any w)
  have HX := Lib.hid (Lin.owned w 0 0 0 42)
  have HB0 := Lib.hid ((Below.refl w.heap.size w).alloc (Nat.le_refl _) (.cells #[.int .i64 0, .int .i64 0, .int .i64 0] 42))
  clear h hi
  go_enter Tryz.func15, Tryz.ntmps15
  go_wp2_with fail
  generalize w.alloc (.cells #[.int .i64 0, .int .i64 0, .int .i64 0] 42) = w0 at *
  refine (HP.out _).mono ?_
  rintro r w1 ⟨rfl, hb⟩
  have HB := Lib.hid (HB0.out.trans (hb.mono HB0.out.size))
  have HX1 := Lib.hid (HX.out.keep hb)
  clear hb HP HX HB0
  go_wp2_with fail
  refine (HN.out _).mono ?_
  rintro r w2 ⟨rfl, rfl⟩
  go_wp2_with fail
  refine (HI.out _).mono ?_
  rintro r w2 ⟨rfl, hb⟩
  have HB2 := Lib.hid (HB.out.trans (hb.mono HB.out.size))
  have HX2 := Lib.hid (HX1.out.keep hb)
  clear hb HX1 HB
  have hc0 := HX2.out.box.c0
  have hc1 := HX2.out.box.c1
  have hc2 := HX2.out.box.c2
  have hf0 := HX2.out.f 0
  have hf1 := HX2.out.f 1
  have hf2 := HX2.out.f 2
  have hl1 := HX2.out.box.lt
  go_wp2
  refine bodyPost_ret (v := .tuple #[.agg #[.int .i64 0, .int .i64 (-1), .int .i64 0], .int .i64 9]) ?_ rfl ⟨rfl, ?_⟩
  · simp [results, Tryz.results15, go_sem, hc0, hc1, hc2]
  · exact ((HB2.out.setCell (Nat.le_refl _) _).setCell (Nat.le_refl _) _).setCell (Nat.le_refl _) _

set_option maxHeartbeats 4000000 in
set_option maxRecDepth 100000 in
theorem inode_yes (h : Vo Q w vb a n m s W st sn) (i : Nat) (hi : i < m) :
    Calls Tryz.prog 15 #[.pointer (some ⟨vb, 0, none⟩), .int .i64 (i : Int)] w fun r w' =>
      r = .returned (.tuple #[Ino.gv (Ino.dec (rdw W (16 + 8 * i) 8)), .int .i64 (Ino.ev (Ino.dec (rdw W (16 + 8 * i) 8)))]) ∧ Below w.heap.size w w' := by
  obtain ⟨c0, c1, c2, c3⟩ := h.cells
  have hlt := h.lt
  have hin := inode_in h hi
  have HP := Lib.hid (inode_place h i hi)
  have HX := Lib.hid (Lin.owned w 0 0 0 42)
  have HB0 := Lib.hid ((Below.refl w.heap.size w).alloc (Nat.le_refl _) (.cells #[.int .i64 0, .int .i64 0, .int .i64 0] 42))
  have HRD := Lib.hid (fun w' (hb : Below w.heap.size w w') => read_any (h.up.keep hb) (16 + 8 * i) 8 (by omega) (by omega))
  have hru := rdw_u64 h.up.u64 (16 + 8 * i) 8
  have hrl := rdw_len W (16 + 8 * i) 8
  have hp0 := pos_not (16 + 8 * i)
  generalize rdw W (16 + 8 * i) 8 = L at *
  generalize 16 + 8 * i = p at *
  have HN := Lib.hid (fun w => isNone_any w (p : Int))
  rw [hp0] at HN
  have HD := Lib.hid (fun (w' : World) (g : Nat) (hr : w'.rowIs g 85 8 (fun i => .int .u64 ((L[i]?.getD 0 : Nat) : Int))) => show Calls Tryz.prog 62 #[.slice (some ⟨g, 0, none⟩) 8 8] w' _ from by
    have hd := Ino.decode_any (some ⟨g, 0, none⟩) 8 L (row_words hr hrl (by omega) hru)
    rw [hrl] at hd
    exact hd)
  obtain ⟨g0, g1, g2, hg⟩ := gv_ino (Ino.dec L)
  rw [hg] at HD ⊢
  generalize Ino.ev (Ino.dec L) = e at *
  have H := Lib.hid h
  clear h hi hg hp0 hin hru hrl
  go_enter Tryz.func15, Tryz.ntmps15
  go_wp2_with fail
  generalize w.alloc (.cells #[.int .i64 0, .int .i64 0, .int .i64 0] 42) = w0 at *
  refine (HP.out _).mono ?_
  rintro r w1 ⟨rfl, hb⟩
  have HB := Lib.hid (HB0.out.trans (hb.mono HB0.out.size))
  have HX1 := Lib.hid (HX.out.keep hb)
  clear hb HP HX c0 c1 c2 c3
  obtain ⟨c0, _, _, _⟩ := (H.out.keep HB.out).cells
  have hl2 := (H.out.keep HB.out).lt
  go_wp2_with fail
  refine (HN.out _).mono ?_
  rintro r w2 ⟨rfl, rfl⟩
  go_wp2_with fail
  refine (HRD.out _ HB.out).mono ?_
  rintro r w2 ⟨gr, rfl, _, hrow, hb⟩
  have HROW := Lib.hid hrow
  have HB2 := Lib.hid (HB.out.trans (hb.mono HB.out.size))
  have HX2 := Lib.hid (HX1.out.keep hb)
  clear hb hrow HX1 HB HRD c0
  go_wp2_with fail
  refine (HD.out _ _ HROW.out).mono ?_
  rintro r w3 ⟨rfl, hb⟩
  have HB3 := Lib.hid (HB2.out.trans (hb.mono HB2.out.size))
  have HX3 := Lib.hid (HX2.out.keep hb)
  clear hb HX2 HB2 HD HROW
  have hc0 := HX3.out.box.c0
  have hc1 := HX3.out.box.c1
  have hc2 := HX3.out.box.c2
  have hf0 := HX3.out.f 0
  have hf1 := HX3.out.f 1
  have hf2 := HX3.out.f 2
  go_wp2
  refine bodyPost_ret (v := .tuple #[.agg #[.int .i64 g0, .int .i64 g1, .int .i64 g2], .int .i64 e]) ?_ rfl ⟨rfl, ?_⟩
  · simp [results, Tryz.results15, go_sem, hc0, hc1, hc2]
  · exact ((HB3.out.setCell (Nat.le_refl _) _).setCell (Nat.le_refl _) _).setCell (Nat.le_refl _) _

theorem setInode_out (h : Vo Q w vb a n m s W st sn) (i x y z : Int) (hi : i < 0 ∨ (m : Int) ≤ i) :
    Calls Tryz.prog 29 #[.pointer (some ⟨vb, 0, none⟩), .int .i64 i, .agg #[.int .i64 x, .int .i64 y, .int .i64 z]] w fun r w' => r = .returned (.int .i64 9) ∧ Below w.heap.size w w' := by
  obtain ⟨c0, c1, c2, c3⟩ := h.cells
  have hlt := h.lt
  have HB0 := Lib.hid ((Below.refl w.heap.size w).alloc (Nat.le_refl _) (.cells #[.int .i64 x, .int .i64 y, .int .i64 z] 42))
  have HP := Lib.hid (fun w => inode_none (n := n) (s := s) hi w)
  have HN := Lib.hid (fun w => isNone_any w (-1))
  clear h hi
  go_enter Tryz.func29, Tryz.ntmps29
  go_wp2_with fail
  generalize w.alloc (.cells #[.int .i64 x, .int .i64 y, .int .i64 z] 42) = w0 at *
  refine (HP.out _).mono ?_
  rintro r w1 ⟨rfl, hb⟩
  have HB := Lib.hid (HB0.out.trans (hb.mono HB0.out.size))
  clear hb HP HB0
  go_wp2_with fail
  refine (HN.out _).mono ?_
  rintro r w2 ⟨rfl, rfl⟩
  go_wp2
  go_ret
  exact ⟨rfl, HB.out⟩

theorem setInode_no (h : Vo Q w vb a n m s W st sn) (i : Nat) (x y z : Int) (hi : i < m) (hm : Ino.may x y z = false) :
    Calls Tryz.prog 29 #[.pointer (some ⟨vb, 0, none⟩), .int .i64 (i : Int), .agg #[.int .i64 x, .int .i64 y, .int .i64 z]] w fun r w' => r = .returned (.int .i64 1) ∧ Below w.heap.size w w' := by
  obtain ⟨c0, c1, c2, c3⟩ := h.cells
  have hlt := h.lt
  have HX := Lib.hid (Lin.boxed w x y z 42)
  have HB0 := Lib.hid ((Below.refl w.heap.size w).alloc (Nat.le_refl _) (.cells #[.int .i64 x, .int .i64 y, .int .i64 z] 42))
  have HP := Lib.hid (inode_place h i hi)
  have hp0 := pos_not (16 + 8 * i)
  generalize 16 + 8 * i = p at *
  have HN := Lib.hid (fun w => isNone_any w (p : Int))
  rw [hp0] at HN
  have HE := Lib.hid (fun w => Ino.encode_no w x y z hm)
  clear h hi hm hp0
  go_enter Tryz.func29, Tryz.ntmps29
  go_wp2_with fail
  generalize w.alloc (.cells #[.int .i64 x, .int .i64 y, .int .i64 z] 42) = w0 at *
  refine (HP.out _).mono ?_
  rintro r w1 ⟨rfl, hb⟩
  have HB := Lib.hid (HB0.out.trans (hb.mono HB0.out.size))
  have HX1 := Lib.hid (HX.out.keep hb)
  clear hb HP HX HB0
  go_wp2_with fail
  refine (HN.out _).mono ?_
  rintro r w2 ⟨rfl, rfl⟩
  have x0 := HX1.out.c0
  have x1 := HX1.out.c1
  have x2 := HX1.out.c2
  have xl := HX1.out.lt
  go_wp2_with fail
  refine (HE.out _).mono ?_
  rintro r w2 ⟨rfl, hb⟩
  have HB2 := Lib.hid (HB.out.trans (hb.mono HB.out.size))
  clear hb HB HE
  go_wp2
  go_ret
  exact ⟨rfl, HB2.out⟩

set_option maxHeartbeats 4000000 in
set_option maxRecDepth 100000 in
theorem setInode_yes (h : Vo Q w vb a n m s W st sn) (i k p z : Nat) (y : Int) (hi : i < m) (hy : y = (p : Int) - 1) (hm : Ino.may k ((p : Int) - 1) z = true) (hs : st + 16 < 100000000000) :
    Calls Tryz.prog 29 #[.pointer (some ⟨vb, 0, none⟩), .int .i64 (i : Int), .agg #[.int .i64 (k : Int), .int .i64 y, .int .i64 (z : Int)]] w fun r w' =>
      r = .returned (.int .i64 0) ∧ Vo Q w' vb a n m s (puts W (sto (16 + 8 * i) (Ino.ln k p z))) (st + 8 + lc (16 + 8 * i) 8) (sn + 8) ∧ Kq Q w w' := by
  obtain ⟨c0, c1, c2, c3⟩ := h.cells
  have hlt := h.lt
  have HX := Lib.hid (Lin.boxed w (k : Int) y (z : Int) 42)
  have HB0 := Lib.hid ((Below.refl w.heap.size w).alloc (Nat.le_refl _) (.cells #[.int .i64 (k : Int), .int .i64 y, .int .i64 (z : Int)] 42))
  have HP := Lib.hid (inode_place h i hi)
  have hin := inode_in h hi
  have hsz := h.up.size
  have hin : 16 + 8 * i + 8 ≤ W.length ∧ W.length ≤ 4194304 := ⟨hin.1, hsz⟩
  have hp0 := pos_not (16 + 8 * i)
  generalize 16 + 8 * i = f at *
  have HN := Lib.hid (fun w => isNone_any w (f : Int))
  rw [hp0] at HN
  have HE := Lib.hid (fun w => Ino.encode_yes w k p z y hy hm)
  have HLL := Lib.hid (show (Ino.ln k p z).length = 8 ∧ ∀ x ∈ Ino.ln k p z, x < 18446744073709551616 from ⟨Ino.ln_len k p z, Ino.ln_u64 hm⟩)
  generalize Ino.ln k p z = L at *
  have HIN := Lib.hid hin
  have HST := Lib.hid hs
  have H := Lib.hid h
  clear h hi hm hp0 hy hin hs hsz
  go_enter Tryz.func29, Tryz.ntmps29
  go_wp2_with fail
  generalize w.alloc (.cells #[.int .i64 (k : Int), .int .i64 y, .int .i64 (z : Int)] 42) = w0 at *
  refine (HP.out _).mono ?_
  rintro r w1 ⟨rfl, hb⟩
  have HB := Lib.hid (HB0.out.trans (hb.mono HB0.out.size))
  have HX1 := Lib.hid (HX.out.keep hb)
  clear hb HP HX HB0
  go_wp2_with fail
  refine (HN.out _).mono ?_
  rintro r w2 ⟨rfl, rfl⟩
  have x0 := HX1.out.c0
  have x1 := HX1.out.c1
  have x2 := HX1.out.c2
  have xl := HX1.out.lt
  go_wp2_with fail
  refine (HE.out _).mono ?_
  rintro r w2 ⟨gr, _, rfl, hrow, hb⟩
  have HROW := Lib.hid (Lin.row_pack hrow HLL.out.1 HLL.out.2)
  have HB2 := Lib.hid (HB.out.trans (hb.mono HB.out.size))
  clear hb HB HE c0 c1 c2 c3 hrow x0 x1 x2 xl HX1
  obtain ⟨c0, _, _, _⟩ := (H.out.keep HB2.out).cells
  have hl2 := (H.out.keep HB2.out).lt
  have HSO := Lib.hid (stores_at (f := f) (c := 8) HROW.out HLL.out.1 (by have := HIN.out; omega) (by omega) (bel_d w2))
  go_wp2_with fail
  go_region_held3 (fun W' => W'.cell? ⟨vb, 0, none⟩ = some (.pointer (some ⟨a, 0, none⟩))) (go_keep)
    (first
    | (go_at_call 89
       with_reducible refine HSO.out.mono ?_
       rintro e w3 ⟨gs, rfl, hg, hS, hb⟩
       have hc3 := ((H.out.keep HB2.out).keep ((bel_d w2).trans (hb.mono (bel_d w2).size))).cells.1
       have HWR := Lib.hid (write_sto H.out (HB2.out.trans ((bel_d w2).mono HB2.out.size)) hg hS hb HLL.out.1 (by have := HIN.out; omega) HLL.out.2 (by have := HST.out; omega))
       clear hg hS hb)
    | (go_at_call 88
       with_reducible refine HWR.out.mono ?_
       rintro e w4 ⟨rfl, hv4, hk4⟩
       have hc4 := hv4.cells.1
       have HV4 := Lib.hid hv4
       have HK4 := Lib.hid hk4
       clear hv4 hk4))
  go_wp2
  go_ret
  exact ⟨rfl, HV4.out, HK4.out⟩
end
end Vol
end Go.Proofs.YtcojgpjappjobaaGreatDoor
/- The document's inode line, in a row of the call's own. -/
namespace Go.Proofs.YtcojgpjappjobaaGreatDoor
open Go.RowKit Go.MapKept
namespace Vol
open Lin Ino
set_option maxRecDepth 100000 in
theorem grow8f (W : World) (g : Nat) (l : List Nat) (y : Nat) (hl : l.length = 7) (h : Crc.Wds W (some ⟨g, 0, none⟩) l) (hu : ∀ x ∈ l ++ [y], x < 18446744073709551616) :
    ∃ (gg gc : Nat) (w' : World), W.heap.size ≤ gg ∧ (Builtin.append_ #[22, 22] 22 #[.slice (some ⟨g, 0, none⟩) 7 7, .slice (some ⟨W.heap.size, 0, none⟩) 1 1]).run Tryz.prog (W.alloc (.cells #[.int .u64 (y : Int)] 85)) = .ok (.slice (some ⟨gg, 0, none⟩) 8 gc) w' ∧ Pack.Wds w' (some ⟨gg, 0, none⟩) (l ++ [y]) ∧ Below W.heap.size W w' := by
  obtain ⟨i1, hi1, hy⟩ := Option.map_eq_some_iff.1 Pack.u64_info
  injection hy with hy0 hy
  injection hy with hy1 hy2
  have hb := (Below.refl W.heap.size W).alloc (Nat.le_refl _) (.cells #[.int .u64 (y : Int)] 85)
  have h7 : Crc.Wds (W.alloc (.cells #[.int .u64 (y : Int)] 85)) (some ⟨g, 0, none⟩) l := h.keep hb
  obtain ⟨v', w', hr, hown, hgr⟩ := run_append_arg_grows (P := Tryz.prog) (W.alloc (.cells #[.int .u64 (y : Int)] 85)) 22 22 85 i1 (.int .u64 0) 1 8 Tryz.underlying22 hi1 hy0 hy1 hy2 rfl (by decide)
    ⟨g, 0, none⟩ 7 7 (Pack.u64s l) (by unfold Pack.u64s; rw [List.length_map, hl]) (fun j u hj => by
      unfold Pack.u64s at hj
      rw [List.getElem?_map] at hj
      rcases Nat.lt_or_ge j l.length with h1 | h1
      · obtain ⟨b, o, e, _, hc⟩ := h7.at' j h1
        injection e with e
        injection e with e1 e2
        subst e1 e2
        rw [List.getElem?_eq_getElem h1] at hj
        rw [Go.WideShapes.add_plain, hc, ← hj]
        rfl
      · rw [List.getElem?_eq_none h1] at hj
        cases hj)
    ⟨W.heap.size, 0, none⟩ 1 1 [.int .u64 (y : Int)] rfl (cell_one_new _ _ _) (by decide) (by decide) (by decide)
  obtain ⟨gg, gc, rfl⟩ := Pm.row_form hown (by decide)
  have hbb := Pack.row_base_lt hown (g := gg) rfl
  refine ⟨gg, gc, w', by simp at hbb; omega, hr, ?_, hb.grown hgr hb.size (fun k hk => by cases hk)⟩
  have e : Pack.u64s l ++ [Value.int .u64 (y : Int)] = Pack.u64s (l ++ [y]) := by unfold Pack.u64s; simp
  rw [e] at hown
  exact Pack.own_wds (l := l ++ [y]) hown hu (by decide)

theorem encf_free (w : World) :
    Calls Tryz.prog 28 #[.agg #[.int .i64 0, .int .i64 (-1), .int .i64 0]] w fun r w' => ∃ gg gc : Nat, w.heap.size ≤ gg ∧ r = .returned (.tuple #[.slice (some ⟨gg, 0, none⟩) 8 gc, .bool true]) ∧ Pack.Wds w' (some ⟨gg, 0, none⟩) zero ∧ Below w.heap.size w w' := by
  have HM := Lib.hid (fun w => refMay_any w 0 (-1) 0)
  have HE := Lib.hid (show may 0 (-1) 0 = true by decide)
  have HB := Lib.hid ((Below.refl w.heap.size w).alloc (Nat.le_refl _) (.cells #[.int .i64 0, .int .i64 (-1), .int .i64 0] 47))
  have HX := Lib.hid (boxed w 0 (-1) 0 47)
  go_enter Tryz.func28, Tryz.ntmps28
  go_wp2_with fail
  refine (HM.out _).mono ?_
  rintro e w1 ⟨rfl, hb⟩
  rw [HE.out]
  have HB1 := Lib.hid (HB.out.trans (hb.mono HB.out.size))
  have HX1 := Lib.hid (HX.out.keep hb)
  have hc0 := HX1.out.c0
  clear hb HX
  have hmk := run_make_row' (P := Tryz.prog) 22 85 _ 8 Tryz.underlying22 Pack.u64_info rfl .i64 .i64 8 (by omega) (by omega) w1
  rw [show ((8 : Nat) : Int) = 8 from rfl] at hmk
  go_wp2
  go_ret2
  exact ⟨w1.heap.size, 8, HB1.out.size, rfl, row_pack (row_zero (row_made w1)) rfl zero_u64, HB1.out.alloc HB1.out.size _⟩

theorem encf_full (w : World) (k p s : Nat) (h : Int) (hh : h = (p : Int) - 1) (hk0 : k ≠ 0) (hm : may k ((p : Int) - 1) s = true) :
    Calls Tryz.prog 28 #[.agg #[.int .i64 (k : Int), .int .i64 h, .int .i64 (s : Int)]] w fun r w' => ∃ gg gc : Nat, w.heap.size ≤ gg ∧ r = .returned (.tuple #[.slice (some ⟨gg, 0, none⟩) 8 gc, .bool true]) ∧ Pack.Wds w' (some ⟨gg, 0, none⟩) (full k p s) ∧ Below w.heap.size w w' := by
  obtain ⟨h1, h2, h3⟩ := may_lt hm
  have HM := Lib.hid (fun w => refMay_any w k h s)
  have HE := Lib.hid (show may k h s = true by rw [hh]; exact hm)
  have hki : ¬ (k : Int) = 0 := by omega
  have hs64 : s < 18446744073709551616 := by omega
  have hk64 : k < 65536 := by omega
  have hp64 : p < 65536 := by omega
  have hhl : -1 ≤ h := by omega
  have hhu : h ≤ 65533 := by omega
  have HH := Lib.hid hh
  clear hm hh
  have HB := Lib.hid ((Below.refl w.heap.size w).alloc (Nat.le_refl _) (.cells #[.int .i64 (k : Int), .int .i64 h, .int .i64 (s : Int)] 47))
  have HX := Lib.hid (boxed w k h s 47)
  go_enter Tryz.func28, Tryz.ntmps28
  go_wp2_with fail
  refine (HM.out _).mono ?_
  rintro e w1 ⟨rfl, hb⟩
  rw [HE.out]
  have HB1 := Lib.hid (HB.out.trans (hb.mono HB.out.size))
  have HX1 := Lib.hid (HX.out.keep hb)
  have hc0 := HX1.out.c0
  have hc1 := HX1.out.c1
  have hc2 := HX1.out.c2
  clear hb HX
  go_wp2_with fail
  have HF := Lib.hid (front_new w1 k p s h HH.out hk64 hp64 hs64)
  have HB3 := Lib.hid (HB1.out.alloc HB1.out.size (.cells #[.int .u64 ((k : Int) + 65536 * (h + 1)), .int .u64 (s : Int), .int .u64 0, .int .u64 0, .int .u64 0, .int .u64 0, .int .u64 0] 85))
  clear hc0 hc1 hc2 HX1 HB1
  generalize w1.alloc (.cells #[.int .u64 ((k : Int) + 65536 * (h + 1)), .int .u64 (s : Int), .int .u64 0, .int .u64 0, .int .u64 0, .int .u64 0, .int .u64 0] 85) = w3 at *
  generalize w1.heap.size = g at *
  refine (Crc.bytes_any _ 7 _ HF.out (by rw [front_len]; omega)).mono ?_
  rintro e w4 ⟨rfl, hb⟩
  have HF4 := Lib.hid (HF.out.keep hb)
  have HB4 := Lib.hid (HB3.out.trans (hb.mono HB3.out.size))
  clear hb HF HB3 HB
  have hsum := Crc.ref32_any w4 (Crc.str (Crc.wflat (front k p s))) (by rw [Crc.str_size, Crc.wflat_len, front_len]; omega)
  rw [Crc.tx_str (Crc.wflat_byt _), show Crc.S32 (Crc.wflat (front k p s)) = sum k p s from rfl] at hsum
  have HS := Lib.hid hsum
  clear hsum
  have hlt := sum_lt k p s
  go_wp2_with fail
  refine HS.out.mono ?_
  rintro e w' ⟨rfl, rfl⟩
  obtain ⟨gg, gc, w5, hgg, hap, hw, hb5⟩ := grow8f w4 g (front k p s) (sum k p s) (front_len _ _ _) HF4.out (full_u64 hk64 hp64 hs64)
  have HGG := Lib.hid (Nat.le_trans HB4.out.size hgg)
  have HAP := Lib.hid hap
  have HW := Lib.hid hw
  have HB5 := Lib.hid (HB4.out.trans (hb5.mono HB4.out.size))
  clear hap hw hb5 hgg HF4 HB4
  go_wp2_with (at_builtin; refine wpList_append_run rfl (.tmp 25) (.tmp 30) 22 rfl _ _ _ rfl rfl HAP.out ?_)
  go_ret2
  exact ⟨gg, gc, HGG.out, rfl, HW.out, HB5.out⟩

theorem encf_any (k h s : Int) : ∃ (L : List Nat) (len : Nat), L.length = len ∧ (∀ w, Calls Tryz.prog 28 #[.agg #[.int .i64 k, .int .i64 h, .int .i64 s]] w fun e w' => ∃ (G : Option Addr) (gc : Nat), e = .returned (.tuple #[.slice G len gc, .bool (Ino.may k h s)]) ∧ (0 < len → ∃ gg, G = some ⟨gg, 0, none⟩ ∧ w.heap.size ≤ gg ∧ Pack.Wds w' (some ⟨gg, 0, none⟩) L) ∧ Below w.heap.size w w') ∧
    (Ino.may k h s = true → len = 8 ∧ ∃ k' p z : Nat, k = (k' : Int) ∧ h = (p : Int) - 1 ∧ s = (z : Int) ∧ Ino.may k' ((p : Int) - 1) z = true ∧ L = Ino.ln k' p z) := by
  cases hm : Ino.may k h s with
  | false => exact ⟨[], 0, rfl, fun w => (Ino.refEncode_no w k h s hm).mono fun e w' ⟨he, hb⟩ => ⟨none, 0, he, by omega, hb⟩, by intro h; cases h⟩
  | true =>
    obtain ⟨k', p, z, rfl, rfl, rfl⟩ := Ino.may_nat hm
    refine ⟨Ino.ln k' p z, 8, Ino.ln_len _ _ _, fun w => ?_, fun _ => ⟨rfl, k', p, z, rfl, rfl, rfl, hm, rfl⟩⟩
    by_cases hk : k' = 0
    · subst hk
      obtain ⟨rfl, rfl⟩ := Ino.may_free hm
      rw [Ino.ln_zero]
      refine (encf_free w).mono ?_
      rintro e w' ⟨gg, gc, h1, rfl, h2, h3⟩
      exact ⟨some ⟨gg, 0, none⟩, gc, rfl, fun _ => ⟨gg, rfl, h1, h2⟩, h3⟩
    · rw [Ino.ln_full hk]
      refine (encf_full w k' p z _ rfl hk hm).mono ?_
      rintro e w' ⟨gg, gc, h1, rfl, h2, h3⟩
      exact ⟨some ⟨gg, 0, none⟩, gc, rfl, fun _ => ⟨gg, rfl, h1, h2⟩, h3⟩
end Vol
end Go.Proofs.YtcojgpjappjobaaGreatDoor
/- VolumeInodes, walked. -/
namespace Go.Proofs.YtcojgpjappjobaaGreatDoor
open Go.RowKit Go.MapKept
namespace Vol
theorem wds_off {w w' : World} {A : Option Addr} {l : List Nat} (h : Pack.Wds w A l) (e : ∀ b o, A = some ⟨b, o, none⟩ → b < w.heap.size → w'.heap[b]? = w.heap[b]?) : Pack.Wds w' A l :=
  ⟨h.u64, h.len, fun j hj => by
    obtain ⟨b, o, e1, h1, h2⟩ := h.at' j hj
    have hb := e b o e1 h1
    exact ⟨b, o, e1, Pm.lt_of_some (hb.trans (Array.getElem?_eq_getElem h1)), (World.cell?_of_block (w := w) hb).trans h2⟩⟩
section
variable {ws : List Nat}
set_option maxHeartbeats 4000000 in
set_option maxRecDepth 100000 in
theorem inodes_law (w : World) (hT : Bm.Tab w) (x y k : Nat) (hx : x < 256) (hy : y < 256) (hk : k < 256) (A : Option Addr) (c : Nat) (hws : Pack.Wds w A ws) (i p q r : Int) :
    Calls Tryz.prog 4 #[.agg #[.int .u8 (x : Int), .int .u8 (y : Int), .int .u8 (k : Int), .slice A ws.length c], .int .i64 i, .agg #[.int .i64 p, .int .i64 q, .int .i64 r]] w fun r w' => r = .returned (.bool true) ∧ Below w.heap.size w w' := by
  obtain ⟨sl, bm, bk, E, hpl⟩ := pl_any x y k
  have HL := Lib.hid (fun w' (hb : Below w.heap.size w w') => lives_any w' (hT.below hb hT.lt))
  have HO := Lib.hid (fun w' (hb : Below w.heap.size w w') => lopen_any w' x y k hx hy hk A c (hws.keep hb) hpl)
  have HP := Lib.hid hpl
  obtain ⟨n, hn⟩ : ∃ n, n = gn x := ⟨_, rfl⟩
  obtain ⟨m, hm⟩ : ∃ m, m = gn y := ⟨_, rfl⟩
  obtain ⟨s, hs⟩ : ∃ s, s = gs k := ⟨_, rfl⟩
  rw [← hn, ← hm, ← hs] at HP HO
  clear hn hm hs hpl hT hws
  go_enter Tryz.func4, Tryz.ntmps4
  obtain ⟨L, len, hLL, hE, hY⟩ := encf_any p q r
  have HE := Lib.hid hE
  have HY := Lib.hid hY
  have HLL := Lib.hid hLL
  have HRF := Lib.hid (fun w => Ino.ref_any w p q r)
  clear hLL hE hY
  have hb0 := (Below.refl w.heap.size w).alloc (Nat.le_refl _) (.cells #[.int .u8 (x : Int), .int .u8 (y : Int), .int .u8 (k : Int), .slice A ws.length c] 24)
  have hz0 := World.size_alloc w (.cells #[.int .u8 (x : Int), .int .u8 (y : Int), .int .u8 (k : Int), .slice A ws.length c] 24)
  have HR0 := Lib.hid (hb_new w #[.int .u8 (x : Int), .int .u8 (y : Int), .int .u8 (k : Int), .slice A ws.length c] 24)
  go_wp2_with fail
  generalize w.alloc (.cells #[.int .u8 (x : Int), .int .u8 (y : Int), .int .u8 (k : Int), .slice A ws.length c] 24) = w0 at *
  have hb1 := hb0.alloc hb0.size (.cells #[.int .i64 p, .int .i64 q, .int .i64 r] 42)
  have hv1 := hb_new w0 #[.int .i64 p, .int .i64 q, .int .i64 r] 42
  rw [hz0] at hv1
  have HB1 := Lib.hid hb1
  have HS1 := Lib.hid hv1
  have HR1 := Lib.hid (HR0.out.keep ((Below.refl w0.heap.size w0).alloc (Nat.le_refl _) (.cells #[.int .i64 p, .int .i64 q, .int .i64 r] 42)))
  clear hb0 hz0 hb1 hv1 HR0
  generalize w0.alloc (.cells #[.int .i64 p, .int .i64 q, .int .i64 r] 42) = w1 at *
  clear w0
  refine (HL.out _ HB1.out).mono ?_
  rintro e w2 ⟨rfl, hb⟩
  have HS2 := Lib.hid (HS1.out.keep hb)
  have HR2 := Lib.hid (HR1.out.keep hb)
  have HB2 := Lib.hid (HB1.out.trans (hb.mono HB1.out.size))
  clear hb HS1 HB1 HL HR1
  have r0 := HR2.out.cell 0
  have r1 := HR2.out.cell 1
  have r2 := HR2.out.cell 2
  have r3 := HR2.out.cell 3
  have rl := HR2.out.lt
  go_wp2_with fail
  refine (HO.out _ HB2.out).mono ?_
  rintro e w3 ⟨Q, vb, a, g, gc, rfl, hov⟩
  clear r0 r1 r2 r3 rl HR2
  have HB3 := Lib.hid (HB2.out.trans (hov.below.mono HB2.out.size))
  have HS3 := Lib.hid (HS2.out.keep hov.below)
  have HQS := Lib.hid (hov.ql _ HS2.out.lt)
  have HQW := Lib.hid (show ∀ k, k < w.heap.size → Q k from fun k hk => hov.ql k (Nat.lt_of_lt_of_le hk HB2.out.size))
  have HQG := Lib.hid hov.qg
  have HLN := Lib.hid hov.len
  have hb4 := (Below.refl w3.heap.size w3).alloc (Nat.le_refl _) (.cells #[.int .i64 (n : Int), .int .i64 (m : Int), .int .i64 (s : Int), .int .i64 16, .int .i64 (sl : Int), .int .i64 (bm : Int), .int .i64 (bk : Int), .int .i64 (E : Int), .slice (some ⟨g, 0, none⟩) E gc] 30)
  have HX4 := Lib.hid (hb_new w3 #[.int .i64 (n : Int), .int .i64 (m : Int), .int .i64 (s : Int), .int .i64 16, .int .i64 (sl : Int), .int .i64 (bm : Int), .int .i64 (bk : Int), .int .i64 (E : Int), .slice (some ⟨g, 0, none⟩) E gc] 30)
  have HV4 := Lib.hid (hov.vo.grow hb4)
  have HD4 := Lib.hid (hov.wds.keep hb4)
  have HS4 := Lib.hid (HS3.out.keep hb4)
  have HB4 := Lib.hid (HB3.out.trans (hb4.mono HB3.out.size))
  clear hov hb4 HO HS2 HB2 HS3 HB3
  unfold dv
  have s0 := HS4.out.cell 0
  have s1 := HS4.out.cell 1
  have s2 := HS4.out.cell 2
  have sl4 := HS4.out.lt
  go_wp2_with fail
  obtain ⟨Q4, hQ4⟩ : ∃ Q4 : Nat → Prop, Q4 = fun k => Q k ∨ (w3.heap.size ≤ k ∧ k < (w3.alloc (.cells #[.int .i64 (n : Int), .int .i64 (m : Int), .int .i64 (s : Int), .int .i64 16, .int .i64 (sl : Int), .int .i64 (bm : Int), .int .i64 (bk : Int), .int .i64 (E : Int), .slice (some ⟨g, 0, none⟩) E gc] 30)).heap.size) := ⟨_, rfl⟩
  rw [← hQ4] at HV4
  have HQ4 := Lib.hid (show Q4 w3.heap.size ∧ ∀ k, Q k → Q4 k by rw [hQ4]; exact ⟨.inr ⟨Nat.le_refl _, by simp⟩, fun k h => .inl h⟩)
  clear hQ4
  generalize w3.alloc (.cells #[.int .i64 (n : Int), .int .i64 (m : Int), .int .i64 (s : Int), .int .i64 16, .int .i64 (sl : Int), .int .i64 (bm : Int), .int .i64 (bk : Int), .int .i64 (E : Int), .slice (some ⟨g, 0, none⟩) E gc] 30) = w4 at *
  generalize w3.heap.size = b3 at *
  clear w3
  refine (HRF.out _).mono ?_
  rintro e w5 ⟨rfl, hb⟩
  have HX5 := Lib.hid (HX4.out.keep hb)
  have HV5 := Lib.hid (HV4.out.keep hb)
  have HD5 := Lib.hid (HD4.out.keep hb)
  have HS5 := Lib.hid (HS4.out.keep hb)
  have HB5 := Lib.hid (HB4.out.trans (hb.mono HB4.out.size))
  clear hb HRF HX4 HV4 HD4 HS4 HB4 s0 s1 s2 sl4
  go_wp2_with fail
  refine (HE.out _).mono ?_
  rintro e w6 ⟨G, gl, rfl, hG, hb⟩
  have HG := Lib.hid hG
  have HBL := Lib.hid hb
  have HX6 := Lib.hid (HX5.out.keep hb)
  have HV6 := Lib.hid (HV5.out.keep hb)
  have HD6 := Lib.hid (HD5.out.keep hb)
  have HS6 := Lib.hid (HS5.out.keep hb)
  have HB6 := Lib.hid (HB5.out.trans (hb.mono HB5.out.size))
  clear hG hb HE HX5 HD5 HS5 HB5
  have s0 := HS6.out.cell 0
  have s1 := HS6.out.cell 1
  have s2 := HS6.out.cell 2
  have sl6 := HS6.out.lt
  rcases Int.lt_or_le i 0 with hi | hi
  · have HC := Lib.hid (setInode_out HV6.out i p q r (.inl hi))
    generalize Ino.may p q r = mb at *
    go_wp2_with fail
    refine HC.out.mono ?_
    rintro e w7 ⟨rfl, hb⟩
    have HX7 := Lib.hid (HX6.out.keep hb)
    have HST := Lib.hid (still_e (sl := sl) (bm := bm) (bk := bk) (HV6.out.keep hb) g gc (HD6.out.keep hb) HLN.out (by have := HP.out.at; omega))
    have HB7 := Lib.hid (HB6.out.trans (hb.mono HB6.out.size))
    clear hb HC HX6 HV6 HD6 HS6 HB6 s0 s1 s2 sl6 HV5 HG
    have c0 := HX7.out.cell 0
    have c1 := HX7.out.cell 1
    have c2 := HX7.out.cell 2
    have c3 := HX7.out.cell 3
    have c4 := HX7.out.cell 4
    have c5 := HX7.out.cell 5
    have c6 := HX7.out.cell 6
    have c7 := HX7.out.cell 7
    have c8 := HX7.out.cell 8
    have hxl := HX7.out.lt
    unfold dv at HST
    go_wp2_with fail
    refine HST.out.mono ?_
    rintro e w8 ⟨rfl, hb⟩
    have HB8 := Lib.hid (HB7.out.trans (hb.mono HB7.out.size))
    clear hb
    go_wp2
    go_ret
    exact ⟨rfl, HB8.out⟩
  rcases Int.lt_or_le i (m : Int) with hin | hin
  · obtain ⟨j, rfl⟩ := Int.eq_ofNat_of_zero_le hi
    have hjn : j < m := by omega
    cases hm : Ino.may p q r with
    | false =>
      have HC := Lib.hid (setInode_no HV6.out j p q r hjn hm)
      have HMM := Lib.hid hm
      clear hm
      go_wp2_with fail
      refine HC.out.mono ?_
      rintro e w7 ⟨rfl, hb⟩
      have HX7 := Lib.hid (HX6.out.keep hb)
      have HST := Lib.hid (still_e (sl := sl) (bm := bm) (bk := bk) (HV6.out.keep hb) g gc (HD6.out.keep hb) HLN.out (by have := HP.out.at; omega))
      have HB7 := Lib.hid (HB6.out.trans (hb.mono HB6.out.size))
      clear hb HC HX6 HV6 HD6 HS6 HB6 s0 s1 s2 sl6 HV5 HG
      have c0 := HX7.out.cell 0
      have c1 := HX7.out.cell 1
      have c2 := HX7.out.cell 2
      have c3 := HX7.out.cell 3
      have c4 := HX7.out.cell 4
      have c5 := HX7.out.cell 5
      have c6 := HX7.out.cell 6
      have c7 := HX7.out.cell 7
      have c8 := HX7.out.cell 8
      have hxl := HX7.out.lt
      unfold dv at HST
      go_wp2_with fail
      refine HST.out.mono ?_
      rintro e w8 ⟨rfl, hb⟩
      have HB8 := Lib.hid (HB7.out.trans (hb.mono HB7.out.size))
      clear hb
      go_wp2
      go_ret
      exact ⟨rfl, HB8.out⟩
    | true =>
      obtain ⟨rfl, k', p', z, hp, hq, hr, hmy, hX⟩ := HY.out hm
      obtain ⟨gg, rfl, hgg, hgw⟩ := HG.out (by omega)
      obtain ⟨bq, oq, hge, hgl, _⟩ := hgw.at' 0 (by rw [HLL.out]; omega)
      injection hge with hge
      injection hge with hge1 hge2
      subst hge1 hge2
      have hvg := HV5.out.grow HBL.out
      obtain ⟨Q6, hQ6⟩ : ∃ Q6 : Nat → Prop, Q6 = fun k => Q4 k ∨ (w5.heap.size ≤ k ∧ k < w6.heap.size) := ⟨_, rfl⟩
      rw [← hQ6] at hvg
      have HQ6 := Lib.hid (show Q6 gg ∧ ∀ k, Q4 k → Q6 k by rw [hQ6]; exact ⟨.inr ⟨hgg, hgl⟩, fun k h => .inl h⟩)
      have HGW := Lib.hid hgw
      have HVG := Lib.hid hvg
      have hc := setInode_yes hvg j k' p' z q hjn hq hmy (by omega)
      have hin := inode_in hvg hjn
      have HC := Lib.hid hc
      rw [← hp, ← hr, ← hX] at HC
      have HDEC := Lib.hid (Ino.dec_ln hmy)
      rw [← hX] at HDEC
      have HEQ := Lib.hid (show p = (k' : Int) ∧ q = (p' : Int) - 1 ∧ r = (z : Int) from ⟨hp, hq, hr⟩)
      have HMM := Lib.hid hm
      have HIN := Lib.hid hin
      clear hm hp hq hr hmy hX hvg hQ6 hc hin hgg hgw hgl HG HV5 HV6
      go_wp2_with fail
      refine HC.out.mono ?_
      rintro e w7 ⟨rfl, hv, hkq⟩
      have HX7 := Lib.hid (HX6.out.kq hkq (HQ6.out.2 _ HQ4.out.1))
      have HS7 := Lib.hid (HS6.out.kq hkq (HQ6.out.2 _ (HQ4.out.2 _ HQS.out)))
      have HD7 := Lib.hid (show Pack.Wds w7 (some ⟨g, 0, none⟩) (rawW n m s E ws) from wds_block HD6.out (hkq.at (HQ6.out.2 _ (HQ4.out.2 _ HQG.out)) (HVG.out.up.lt _ (HQ6.out.2 _ (HQ4.out.2 _ HQG.out)))))
      have HW7 := Lib.hid (show Pack.Wds w7 (some ⟨gg, 0, none⟩) L from wds_off HGW.out (fun b o e hb => by
        injection e with e
        injection e with e _
        subst e
        exact hkq.at HQ6.out.1 hb))
      have HB7 := Lib.hid (HB6.out.trans (hkq.below HB6.out.size (fun k hk => HQ6.out.2 _ (HQ4.out.2 _ (HQW.out k hk)))))
      have HV7 := Lib.hid hv
      have hsy := inode_yes hv j hjn
      have hrd := rdw_puts (rawW n m s E ws) (16 + 8 * j) L (by rw [HLL.out]; have := HIN.out; omega)
      rw [HLL.out] at hrd
      rw [hrd, HDEC.out] at hsy
      simp only [Ino.gv, Ino.ev] at hsy
      rw [← HEQ.out.1, ← HEQ.out.2.1, ← HEQ.out.2.2] at hsy
      have HSY := Lib.hid hsy
      clear hsy hrd hv hkq HC HX6 HD6 HS6 HB6 HGW HVG s0 s1 s2 sl6
      have c0 := HX7.out.cell 0
      have c1 := HX7.out.cell 1
      have c2 := HX7.out.cell 2
      have c3 := HX7.out.cell 3
      have c4 := HX7.out.cell 4
      have c5 := HX7.out.cell 5
      have c6 := HX7.out.cell 6
      have c7 := HX7.out.cell 7
      have c8 := HX7.out.cell 8
      have hxl := HX7.out.lt
      have s0 := HS7.out.cell 0
      have s1 := HS7.out.cell 1
      have s2 := HS7.out.cell 2
      have sl7 := HS7.out.lt
      go_wp2_with fail
      refine HSY.out.mono ?_
      rintro e w8 ⟨rfl, hb⟩
      have HX8 := Lib.hid (HX7.out.keep hb)
      have HS8 := Lib.hid (HS7.out.keep hb)
      have HD8 := Lib.hid (HD7.out.keep hb)
      have HW8 := Lib.hid (HW7.out.keep hb)
      have HV8 := Lib.hid (HV7.out.keep hb)
      have HB8 := Lib.hid (HB7.out.trans (hb.mono HB7.out.size))
      clear hb HX7 HS7 HD7 HV7 HW7 HB7 HSY s0 s1 s2 sl7 hxl c0 c1 c2 c3 c4 c5 c6 c7 c8
      have c0 := HX8.out.cell 0
      have c1 := HX8.out.cell 1
      have c2 := HX8.out.cell 2
      have c3 := HX8.out.cell 3
      have c4 := HX8.out.cell 4
      have c5 := HX8.out.cell 5
      have c6 := HX8.out.cell 6
      have c7 := HX8.out.cell 7
      have c8 := HX8.out.cell 8
      have hxl := HX8.out.lt
      have s0 := HS8.out.cell 0
      have s1 := HS8.out.cell 1
      have s2 := HS8.out.cell 2
      have sl8 := HS8.out.lt
      obtain ⟨F, hF⟩ : ∃ F, F = 16 + 8 * j := ⟨_, rfl⟩
      have hpat := HP.out.at
      have hm20 := HP.out.m20
      have hFE : F + 8 ≤ E ∧ E ≤ 540 := by
        have h1 := HIN.out.1
        have h2 := HLN.out
        omega
      have hsum : (16 : Int) + 8 * (j : Int) = (F : Int) := by omega
      have hj20 : j ≤ 20 := by omega
      have hvv := HV8.out
      rw [← hF] at hvv
      have HVF := Lib.hid (show Vo Q6 w8 vb a n m s (puts (rawW n m s E ws) (sto F L)) (L.length + lc F L.length) L.length by
        have e1 := HLL.out
        rw [e1]
        simpa using hvv)
      have HFE := Lib.hid hFE
      have HFD := Lib.hid hF
      clear hpat hm20 hvv hF HV8 hFE
      have hb9 := (Below.refl w8.heap.size w8).alloc (Nat.le_refl _) (.cells #[.int .i64 p, .int .i64 q, .int .i64 r] 42)
      have hwr := wrote_any (sl := sl) (bm := bm) (bk := bk) F L (HVF.out.keep hb9) g gc (HD8.out.keep hb9) HLN.out (by have := HFE.out; omega) (by have := HFE.out; omega) (some ⟨gg, 0, none⟩) gl (HW8.out.keep hb9) (by have := HFE.out; have := HLL.out; omega)
      rw [HLL.out] at hwr
      have HWR := Lib.hid hwr
      have HB9 := Lib.hid (HB8.out.trans (hb9.mono HB8.out.size))
      unfold dv at HWR
      clear hb9 hwr HVF HD8 HB8
      go_wp2_with fail
      refine HWR.out.mono ?_
      rintro e w10 ⟨rfl, hb⟩
      have HB10 := Lib.hid (HB9.out.trans (hb.mono HB9.out.size))
      clear hb HWR
      go_wp2
      go_ret
      exact ⟨rfl, HB10.out⟩
  · have HC := Lib.hid (setInode_out HV6.out i p q r (.inr hin))
    generalize Ino.may p q r = mb at *
    go_wp2_with fail
    refine HC.out.mono ?_
    rintro e w7 ⟨rfl, hb⟩
    have HX7 := Lib.hid (HX6.out.keep hb)
    have HST := Lib.hid (still_e (sl := sl) (bm := bm) (bk := bk) (HV6.out.keep hb) g gc (HD6.out.keep hb) HLN.out (by have := HP.out.at; omega))
    have HB7 := Lib.hid (HB6.out.trans (hb.mono HB6.out.size))
    clear hb HC HX6 HV6 HD6 HS6 HB6 s0 s1 s2 sl6 HV5 HG
    have c0 := HX7.out.cell 0
    have c1 := HX7.out.cell 1
    have c2 := HX7.out.cell 2
    have c3 := HX7.out.cell 3
    have c4 := HX7.out.cell 4
    have c5 := HX7.out.cell 5
    have c6 := HX7.out.cell 6
    have c7 := HX7.out.cell 7
    have c8 := HX7.out.cell 8
    have hxl := HX7.out.lt
    unfold dv at HST
    go_wp2_with fail
    refine HST.out.mono ?_
    rintro e w8 ⟨rfl, hb⟩
    have HB8 := Lib.hid (HB7.out.trans (hb.mono HB7.out.size))
    clear hb
    go_wp2
    go_ret
    exact ⟨rfl, HB8.out⟩
end
end Vol
end Go.Proofs.YtcojgpjappjobaaGreatDoor
/- Law 15's arguments, as they are read, opened: an inode, a record; blocks' numbers, bytes. -/
namespace Go.Proofs.YtcojgpjappjobaaGreatDoor
open Go.ChangeShapes Go.WideShapes Go.ChangeAt Go.RowKit Go.Joins
namespace Vol
theorem cells_inode : Tryz.prog.cellsOf 42 = 3 := by kernel_rfl
theorem cells_record : Tryz.prog.cellsOf 70 = 4 := by kernel_rfl
section
variable {H : Type} {enc : TypeId × Value → H} {W : World} {sp : Nat → Bool} {held : Bool} {r : Reach} {b0 : Nat} {v : Value} {d : DataW H} {p : List MemPlace}
set_option maxRecDepth 100000 in
theorem open_inode (hv : Value.okWide Tryz.prog W r b0 42 v) (h : DataW.Trod enc Tryz.prog W 0 sp held 42 v d p) : ∃ y : Int × Int × Int, v = .agg #[.int .i64 y.1, .int .i64 y.2.1, .int .i64 y.2.2] ∧ True := by
  obtain ⟨c0, c1, c2, y0, y1, y2, m, rfl, rfl, rfl, hy0, hy1, hy2⟩ := open_agg3 Tryz.underlying42 (by kernel_rfl) cells_inode hv h
  obtain ⟨a, e0, _, wa⟩ := DataW.trod_int Tryz.underlying40 hy0
  obtain ⟨b, e1, _, wb⟩ := DataW.trod_int Tryz.underlying3 hy1
  obtain ⟨c, e2, _, wc⟩ := DataW.trod_int Tryz.underlying3 hy2
  simp at e0 e1 e2
  subst e0 e1 e2
  exact ⟨(a, b, c), rfl, trivial⟩
set_option maxRecDepth 100000 in
theorem open_record (hv : Value.okWide Tryz.prog W r b0 70 v) (h : DataW.Trod enc Tryz.prog W 0 sp held 70 v d p) : ∃ y : Int × Int × Int × Int, v = .agg #[.int .i64 y.1, .int .i64 y.2.1, .int .i64 y.2.2.1, .int .i64 y.2.2.2] ∧ True := by
  obtain ⟨c0, c1, c2, c3, y0, y1, y2, y3, m, rfl, rfl, rfl, hy0, hy1, hy2, hy3⟩ := open_agg4 Tryz.underlying70 (by kernel_rfl) cells_record hv h
  obtain ⟨a, e0, _, wa⟩ := DataW.trod_int Tryz.underlying3 hy0
  obtain ⟨b, e1, _, wb⟩ := DataW.trod_int Tryz.underlying3 hy1
  obtain ⟨c, e2, _, wc⟩ := DataW.trod_int Tryz.underlying3 hy2
  obtain ⟨d, e3, _, wd⟩ := DataW.trod_int Tryz.underlying3 hy3
  simp at e0 e1 e2 e3
  subst e0 e1 e2 e3
  exact ⟨(a, b, c, d), rfl, trivial⟩
end
end Vol
end Go.Proofs.YtcojgpjappjobaaGreatDoor
