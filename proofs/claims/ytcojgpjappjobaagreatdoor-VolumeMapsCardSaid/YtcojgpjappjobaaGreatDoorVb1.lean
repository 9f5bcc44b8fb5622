/- Texts laid together: VolBlock, VolBytes, VolBlocksLaw, VolArgs3. -/
import Derived.Test.YtcojgpjappjobaaGreatDoorVi1
import Derived.Test.YtcojgpjappjobaaGreatDoorVs4
import Derived.Laws.CopyRow
import Derived.Test.YtcojgpjappjobaaGreatDoorVs9
import Derived.Test.YtcojgpjappjobaaGreatDoorVs8
import Derived.Test.YtcojgpjappjobaaGreatDoorVs1
import Derived.Test.YtcojgpjappjobaaGreatDoorVs2
import Derived.Test.YtcojgpjappjobaaGreatDoorVs3
import Derived.Test.YtcojgpjappjobaaGreatDoorVs5
import Derived.Test.YtcojgpjappjobaaGreatDoorVs6
import Derived.Test.YtcojgpjappjobaaGreatDoorVs7
/- A volume's blocks: read and written. -/
namespace Go.Proofs.YtcojgpjappjobaaGreatDoor
open Go.RowKit Go.MapKept
namespace Vol
/-- bytes, and noughts behind them -/
def dz (d : List Nat) (s : Nat) : List Nat := d ++ List.replicate (s - d.length) 0
theorem dz_len {d : List Nat} {s : Nat} (h : d.length ≤ s) : (dz d s).length = s := by
  unfold dz
  rw [List.length_append, List.length_replicate]
  omega
theorem dz_byt {d : List Nat} (h : Pack.Byt d) (s : Nat) : Pack.Byt (dz d s) := by
  intro x hx
  rcases List.mem_append.1 hx with h1 | h1
  · exact h x h1
  · rw [(List.mem_replicate.1 h1).2]
    decide
theorem bts_row {w : World} {g : Nat} {l : List Nat} (h : w.heap[g]? = some (.cells (Pack.u8s l).toArray 5 (0, 0))) (hb : Pack.Byt l) (hl : l.length ≤ 9223372036854775807) : Pack.Bts w (some ⟨g, 0, none⟩) l :=
  ⟨hb, hl, fun j hj => ⟨g, 0, rfl, Pm.lt_of_some h, by
    rw [Pm.blk_cell h]
    simp [Pack.u8s, List.getElem?_eq_getElem hj]⟩⟩

section
variable {Q Q' : Nat → Prop} {w w' : World} {vb a n m s : Nat} {W : List Nat} {st sn : Nat}
/-- where a volume's blocks begin -/
theorem Vo.blk (h : Vo Q w vb a n m s W st sn) : ∃ bk q : Nat, Geo.bkAt n m = (bk : Int) ∧ s = 8 * q ∧ 8 ≤ q ∧ q ≤ 512 ∧ W.length = bk + n * q ∧ bk ≤ 610000 := by
  obtain ⟨h1, h2, h3⟩ := h.num
  have h4 := Geo.bk_bounds h1 h2
  have h5 := h3.bounds
  obtain ⟨bk, hbk⟩ := Int.eq_ofNat_of_zero_le h4.2.2.2.2
  refine ⟨bk, s / 8, hbk, by omega, by omega, by omega, ?_, by omega⟩
  have h7 := h.len
  unfold Geo.fin at h7
  rw [hbk] at h7
  have : ((n * (s / 8) : Nat) : Int) = (n : Int) * ((s : Int) / 8) := by simp
  omega
theorem block_in (n q b : Nat) (h : b < n) : b * q + q ≤ n * q := by
  have := Nat.mul_le_mul_right q (Nat.succ_le_of_lt h)
  rw [Nat.succ_mul] at this
  exact this
theorem block_place (h : Vo Q w vb a n m s W st sn) {bk q : Nat} (hbk : Geo.bkAt n m = (bk : Int)) (hq : s = 8 * q) (i : Nat) (hi : i < n) (w' : World) : Calls Tryz.prog 69 #[.agg #[.int .i64 n, .int .i64 m, .int .i64 s], .int .i64 (i : Int)] w' fun r w'' => r = .returned (.int .i64 ((bk + i * q : Nat) : Int)) ∧ Below w'.heap.size w' w'' := by
  have h1 := h.num.1
  have h3 := h.num.2.2.bounds
  have hp := Geo.block_any w' (n : Int) (m : Int) (s : Int) (i : Int) (by unfold Geo.I64; omega) (by unfold Geo.I64; omega)
  rw [Geo.plc_yes h.may (by omega) (by omega), hbk, show (s : Int) / 8 = (q : Int) by omega, show (bk : Int) + (i : Int) * (q : Int) = ((bk + i * q : Nat) : Int) by simp] at hp
  exact hp
theorem block_none (h : Vo Q w vb a n m s W st sn) {i : Int} (hi : i < 0 ∨ (n : Int) ≤ i) (w' : World) : Calls Tryz.prog 69 #[.agg #[.int .i64 n, .int .i64 m, .int .i64 s], .int .i64 i] w' fun r w'' => r = .returned (.int .i64 (-1)) ∧ Below w'.heap.size w' w'' := by
  have h1 := h.num.1
  have h3 := h.num.2.2.bounds
  have hp := Geo.block_any w' (n : Int) (m : Int) (s : Int) i (by unfold Geo.I64; omega) (by unfold Geo.I64; omega)
  rw [Geo.plc_out (by omega)] at hp
  exact hp

theorem block_no (h : Vo Q w vb a n m s W st sn) (i : Int) (hi : i < 0 ∨ (n : Int) ≤ i) :
    Calls Tryz.prog 21 #[.pointer (some ⟨vb, 0, none⟩), .int .i64 i] w fun r w' => r = .returned (.tuple #[.slice none 0 0, .int .i64 9]) ∧ Below w.heap.size w w' := by
  obtain ⟨c0, c1, c2, c3⟩ := h.cells
  have hlt := h.lt
  have HP := Lib.hid (block_none h hi)
  have HN := Lib.hid (fun w => isNone_any w (-1))
  clear h hi
  go_enter Tryz.func21, Tryz.ntmps21
  go_wp2_with fail
  refine (HP.out _).mono ?_
  rintro r w1 ⟨rfl, hb⟩
  have HB := Lib.hid hb
  clear hb HP
  go_wp2_with fail
  refine (HN.out _).mono ?_
  rintro r w2 ⟨rfl, rfl⟩
  go_wp2
  go_ret2
  exact ⟨rfl, HB.out⟩

set_option maxHeartbeats 4000000 in
set_option maxRecDepth 100000 in
theorem block_yes (h : Vo Q w vb a n m s W st sn) {bk q : Nat} (hbk : Geo.bkAt n m = (bk : Int)) (hq : s = 8 * q) (i : Nat) (hi : i < n) :
    Calls Tryz.prog 21 #[.pointer (some ⟨vb, 0, none⟩), .int .i64 (i : Int)] w fun r w' =>
      ∃ (G : Option Addr) (gc : Nat), r = .returned (.tuple #[.slice G (8 * q) gc, .int .i64 0]) ∧ 8 * q ≤ gc ∧ Pack.Bts w' G (Pack.wflat (rdw W (bk + i * q) q)) ∧ Below w.heap.size w w' := by
  obtain ⟨c0, c1, c2, c3⟩ := h.cells
  have hlt := h.lt
  obtain ⟨bk', q', e1, e2, hq8, hq5, hWl, hbk6⟩ := h.blk
  obtain rfl : bk' = bk := by omega
  obtain rfl : q' = q := by omega
  have hsz := h.up.size
  have hin := block_in n q' i hi
  have HP := Lib.hid (block_place h hbk hq i hi)
  have HEA := Lib.hid (fun w => show Calls Tryz.prog 71 #[.agg #[.int .i64 n, .int .i64 m, .int .i64 s]] w _ from by
    have he := Geo.each_any w (n : Int) (m : Int) (s : Int)
    rw [Geo.iff_yes h.may, show (s : Int) / 8 = (q' : Int) by omega] at he
    exact he)
  have hp0 := pos_not (bk' + i * q')
  have hru := rdw_u64 h.up.u64 (bk' + i * q') q'
  have hrl := rdw_len W (bk' + i * q') q'
  have HRD := Lib.hid (fun w' (hb : Below w.heap.size w w') => read_any (h.up.keep hb) (bk' + i * q') q' (by omega) (by omega))
  generalize rdw W (bk' + i * q') q' = L at *
  generalize bk' + i * q' = p at *
  have HN := Lib.hid (fun w => isNone_any w (p : Int))
  rw [hp0] at HN
  have HBY := Lib.hid (fun (w' : World) (g : Nat) (hr : w'.rowIs g 85 q' (fun i => .int .u64 ((L[i]?.getD 0 : Nat) : Int))) => show Calls Tryz.prog 70 #[.slice (some ⟨g, 0, none⟩) q' q'] w' _ from by
    have hd := Pack.bytes_any (some ⟨g, 0, none⟩) q' L (row_words hr hrl (by omega) hru) (by omega)
    rw [hrl] at hd
    exact hd)
  have H := Lib.hid h
  have HQQ := Lib.hid hq
  clear h hi hp0 hin hru hrl e1 e2 hbk hq hWl hsz
  go_enter Tryz.func21, Tryz.ntmps21
  go_wp2_with fail
  refine (HP.out _).mono ?_
  rintro r w1 ⟨rfl, hb⟩
  have HB := Lib.hid hb
  clear hb HP c0 c1 c2 c3
  obtain ⟨c0, c1, c2, c3⟩ := (H.out.keep HB.out).cells
  have hl2 := (H.out.keep HB.out).lt
  go_wp2_with fail
  refine (HN.out _).mono ?_
  rintro r w2 ⟨rfl, rfl⟩
  go_wp2_with fail
  go_region_held3 (fun W' => W'.cell? ⟨vb, 0, none⟩ = some (.pointer (some ⟨a, 0, none⟩)) ∧ W'.cell? ⟨vb, 1, none⟩ = some (.int .i64 (n : Int)) ∧ W'.cell? ⟨vb, 2, none⟩ = some (.int .i64 (m : Int)) ∧ W'.cell? ⟨vb, 3, none⟩ = some (.int .i64 (s : Int))) (go_keep)
    (first
    | (go_at_call 71
       with_reducible refine (HEA.out _).mono ?_
       rintro e w3 ⟨rfl, hb⟩
       have HB3 := Lib.hid (HB.out.trans (((bel_d w1).trans (hb.mono (bel_d w1).size)).mono HB.out.size))
       obtain ⟨d0, d1, d2, d3⟩ := (H.out.keep HB3.out).cells
       have hl3 := (H.out.keep HB3.out).lt
       clear hb)
    | (go_at_call 63
       with_reducible refine (HRD.out _ HB3.out).mono ?_
       rintro e w4 ⟨gr, rfl, _, hrow, hb⟩
       have HROW := Lib.hid hrow
       have HB4 := Lib.hid (HB3.out.trans (hb.mono HB3.out.size))
       obtain ⟨f0, f1, f2, f3⟩ := (H.out.keep HB4.out).cells
       have hl4 := (H.out.keep HB4.out).lt
       clear hb hrow)
    | (go_at_call 70
       with_reducible refine (HBY.out _ _ HROW.out).mono ?_
       rintro e w5 ⟨G, gc, rfl, hgc, hbts, hb⟩
       have HBT := Lib.hid hbts
       have HGC := Lib.hid hgc
       have HB5 := Lib.hid (HB4.out.trans (hb.mono HB4.out.size))
       obtain ⟨g0, g1, g2, g3⟩ := (H.out.keep HB5.out).cells
       have hl5 := (H.out.keep HB5.out).lt
       clear hb hbts hgc))
  go_wp2
  go_ret2
  exact ⟨G, gc, rfl, HGC.out, HBT.out, HB5.out⟩

theorem setBlock_out (h : Vo Q w vb a n m s W st sn) (i : Int) (A : Option Addr) (L c : Nat) (hi : i < 0 ∨ (n : Int) ≤ i) :
    Calls Tryz.prog 34 #[.pointer (some ⟨vb, 0, none⟩), .int .i64 i, .slice A L c] w fun r w' => r = .returned (.int .i64 9) ∧ Below w.heap.size w w' := by
  obtain ⟨c0, c1, c2, c3⟩ := h.cells
  have hlt := h.lt
  have HP := Lib.hid (block_none h hi)
  have HN := Lib.hid (fun w => isNone_any w (-1))
  clear h hi
  go_enter Tryz.func34, Tryz.ntmps34
  go_wp2_with fail
  refine (HP.out _).mono ?_
  rintro r w1 ⟨rfl, hb⟩
  have HB := Lib.hid hb
  clear hb HP
  go_wp2_with fail
  refine (HN.out _).mono ?_
  rintro r w2 ⟨rfl, rfl⟩
  go_wp2
  go_ret
  exact ⟨rfl, HB.out⟩

theorem setBlock_long (h : Vo Q w vb a n m s W st sn) {bk q : Nat} (hbk : Geo.bkAt n m = (bk : Int)) (hq : s = 8 * q) (i : Nat) (hi : i < n) (A : Option Addr) (L c : Nat) (hL : s < L) :
    Calls Tryz.prog 34 #[.pointer (some ⟨vb, 0, none⟩), .int .i64 (i : Int), .slice A L c] w fun r w' => r = .returned (.int .i64 1) ∧ Below w.heap.size w w' := by
  obtain ⟨c0, c1, c2, c3⟩ := h.cells
  have hlt := h.lt
  have HP := Lib.hid (block_place h hbk hq i hi)
  have hp0 := pos_not (bk + i * q)
  generalize bk + i * q = p at *
  have HN := Lib.hid (fun w => isNone_any w (p : Int))
  rw [hp0] at HN
  have H := Lib.hid h
  clear h hi hp0 hbk hq
  go_enter Tryz.func34, Tryz.ntmps34
  go_wp2_with fail
  refine (HP.out _).mono ?_
  rintro r w1 ⟨rfl, hb⟩
  have HB := Lib.hid hb
  clear hb HP c0 c1 c2 c3
  obtain ⟨c0, c1, c2, c3⟩ := (H.out.keep HB.out).cells
  have hl2 := (H.out.keep HB.out).lt
  go_wp2_with fail
  refine (HN.out _).mono ?_
  rintro r w2 ⟨rfl, rfl⟩
  go_wp2
  go_ret
  exact ⟨rfl, HB.out⟩

theorem u8s_len (l : List Nat) : (Pack.u8s l).length = l.length := by simp [Pack.u8s]
theorem bts_news {W : World} {b o : Nat} {l : List Nat} (h : Pack.Bts W (some ⟨b, o, none⟩) l) : ∀ j u, (Pack.u8s l)[j]? = some u → W.cell? ((⟨b, o, none⟩ : Addr).add j) = some u := by
  intro j u hu
  have hj : j < l.length := by
    have := (List.getElem?_eq_some_iff.1 hu).1
    simpa [Pack.u8s] using this
  obtain ⟨b', o', e, _, hc⟩ := h.at' j hj
  injection e with e
  injection e with e1 e2
  subst e1 e2
  rw [Go.WideShapes.add_plain, hc, ← hu]
  simp [Pack.u8s, List.getElem?_map, List.getElem?_eq_getElem hj]
set_option maxRecDepth 100000 in
/-- bytes copied into a row of noughts -/
theorem copy_zeros (w : World) (d : List Nat) (s b o c : Nat) (h : Pack.Bts w (some ⟨b, o, none⟩) d) (hd : d.length ≤ s) (hs : s ≤ 9223372036854775807) :
    ∃ w', (Builtin.copy_ #[59, 59] 3 #[.slice (some ⟨w.heap.size, 0, none⟩) s s, .slice (some ⟨b, o, none⟩) d.length c]).run Tryz.prog (w.alloc (.cells (madeCells #[.int .u8 0] s) 5)) = .ok (goInt d.length) w' ∧
      Pack.Bts w' (some ⟨w.heap.size, 0, none⟩) (dz d s) ∧ Below w.heap.size w w' := by
  have hg := (heap_alloc w (.cells (madeCells #[.int .u8 0] s) 5)).1
  have hb := (Below.refl w.heap.size w).alloc (Nat.le_refl _) (.cells (madeCells #[.int .u8 0] s) 5)
  have hcp := run_copy_row (P := Tryz.prog) (w.alloc (.cells (madeCells #[.int .u8 0] s) 5)) 59 59 3 5 w.heap.size 0 s s ⟨b, o, none⟩ d.length c _ 5 (Pack.u8s d) Tryz.underlying59 (by kernel_rfl) hg
    (by rw [u8s_len]; exact (Nat.min_eq_left hd).symm) (bts_news (h.keep hb)) (by rw [u8s_len, size_madeCells]; omega) (Pack.u8s_one d)
  rw [u8s_len] at hcp
  refine ⟨_, hcp, bts_row ?_ (dz_byt h.byt s) (by rw [dz_len hd]; exact hs), ?_⟩
  · rw [setRow_heap _ _ _ _ _ _ hg]
    congr 2
    apply Array.toList_inj.1
    unfold dz
    rw [Nat.zero_add, toList_madeCells_one]
    simp [Pack.u8s]
  · refine ⟨hb.os, hb.tape, hb.output, by simp [World.setRow], fun k hk => ?_⟩
    rw [setRow_other _ _ _ _ (by omega)]
    exact hb.block k hk

set_option maxHeartbeats 4000000 in
set_option maxRecDepth 100000 in
theorem setBlock_yes (h : Vo Q w vb a n m s W st sn) {bk q : Nat} (hbk : Geo.bkAt n m = (bk : Int)) (hq : s = 8 * q) (i : Nat) (hi : i < n) (b o c : Nat) (d : List Nat) (hd : Pack.Bts w (some ⟨b, o, none⟩) d) (hds : d.length ≤ s) (hs : st + 2 * q < 100000000000) :
    Calls Tryz.prog 34 #[.pointer (some ⟨vb, 0, none⟩), .int .i64 (i : Int), .slice (some ⟨b, o, none⟩) d.length c] w fun r w' =>
      r = .returned (.int .i64 0) ∧ Vo Q w' vb a n m s (puts W (sto (bk + i * q) (Pack.wrds (dz d s)))) (st + q + lc (bk + i * q) q) (sn + q) ∧ Kq Q w w' := by
  obtain ⟨c0, c1, c2, c3⟩ := h.cells
  have hlt := h.lt
  obtain ⟨bk', q', e1, e2, hq8, hq5, hWl, hbk6⟩ := h.blk
  obtain rfl : bk' = bk := by omega
  obtain rfl : q' = q := by omega
  have hsz := h.up.size
  have hin := block_in n q' i hi
  have HP := Lib.hid (block_place h hbk hq i hi)
  have hp0 := pos_not (bk' + i * q')
  have HIN := Lib.hid (show bk' + i * q' + q' ≤ W.length ∧ bk' + i * q' ≤ 10000000 from ⟨by omega, by omega⟩)
  generalize bk' + i * q' = p at *
  have HN := Lib.hid (fun w => isNone_any w (p : Int))
  rw [hp0] at HN
  have hwl : (Pack.wrds (dz d s)).length = q' := by rw [Pack.wrds_len, dz_len hds]; omega
  have HWL := Lib.hid (show (Pack.wrds (dz d s)).length = q' ∧ ∀ x ∈ Pack.wrds (dz d s), x < 18446744073709551616 from ⟨hwl, Pack.wrds_u64 (dz_byt hd.byt s)⟩)
  have HDL := Lib.hid (show (dz d s).length = s ∧ d.length ≤ s ∧ s ≤ 4096 from ⟨dz_len hds, hds, by omega⟩)
  have H := Lib.hid h
  have HD := Lib.hid hd
  have HST := Lib.hid hs
  clear h hi hp0 hin hbk hq e1 e2 hWl hsz hwl hd hs
  go_enter Tryz.func34, Tryz.ntmps34
  go_wp2_with fail
  refine (HP.out _).mono ?_
  rintro r w1 ⟨rfl, hb⟩
  have HB := Lib.hid hb
  clear hb HP c0 c1 c2 c3
  obtain ⟨c0, c1, c2, c3⟩ := (H.out.keep HB.out).cells
  have hl2 := (H.out.keep HB.out).lt
  have hmk := run_make_row' (P := Tryz.prog) 59 5 _ 1 Tryz.underlying59 Pack.u8_info rfl .i64 .i64 s (by have := HDL.out; omega) (by have := HDL.out; omega) w1
  obtain ⟨w3, hcp, hbt, hb3⟩ := copy_zeros w1 d s b o c (HD.out.keep HB.out) hds (by have := HDL.out; omega)
  have HB3 := Lib.hid (HB.out.trans (hb3.mono HB.out.size))
  have HPW := Lib.hid (show Calls Tryz.prog 93 #[.slice (some ⟨w1.heap.size, 0, none⟩) s s] w3.drew _ from by
    have hpw := Pack.words_any (some ⟨w1.heap.size, 0, none⟩) s (dz d s) (hbt.keep (bel_d w3)) (by have := HDL.out; omega)
    rw [HDL.out.1, HWL.out.1] at hpw
    exact hpw)
  clear hbt hb3
  go_wp2_with fail
  refine (HN.out _).mono ?_
  rintro r w2 ⟨rfl, rfl⟩
  obtain ⟨e0, _, _, _⟩ := (H.out.keep HB3.out).cells
  have hl3 := (H.out.keep HB3.out).lt
  go_wp2_with fail
  go_region_held3 (fun W' => W'.cell? ⟨vb, 0, none⟩ = some (.pointer (some ⟨a, 0, none⟩))) (go_keep)
    (first
    | (go_at_call 93
       with_reducible refine HPW.out.mono ?_
       rintro e w4 ⟨G, gc, rfl, hww, hb⟩
       have HB4 := Lib.hid (HB3.out.trans (((bel_d w3).trans (hb.mono (bel_d w3).size)).mono HB3.out.size))
       have HSO := Lib.hid (stores_at (f := p) (c := gc) hww HWL.out.1 (by have := HIN.out; omega) (by omega) (Below.refl _ w4))
       have hc4 := (H.out.keep HB4.out).cells.1
       clear hww hb)
    | (go_at_call 89
       with_reducible refine HSO.out.mono ?_
       rintro e w5 ⟨gs, rfl, hg, hS, hb⟩
       have hc5 := (H.out.keep (HB4.out.trans (hb.mono HB4.out.size))).cells.1
       have HWR := Lib.hid (write_sto H.out HB4.out hg hS hb HWL.out.1 (by have := HIN.out; omega) HWL.out.2 HST.out)
       clear hg hS hb)
    | (go_at_call 88
       with_reducible refine HWR.out.mono ?_
       rintro e w6 ⟨rfl, hv6, hk6⟩
       have hc6 := hv6.cells.1
       have HV6 := Lib.hid hv6
       have HK6 := Lib.hid hk6
       clear hv6 hk6))
  go_wp2
  go_ret
  exact ⟨rfl, HV6.out, HK6.out⟩
end
end Vol
end Go.Proofs.YtcojgpjappjobaaGreatDoor
/- Bytes of the call's own: a copy, noughts behind it. -/
namespace Go.Proofs.YtcojgpjappjobaaGreatDoor
open Go.RowKit Go.MapKept
namespace Vol
theorem u8_parts : ∃ i0, Tryz.prog.info? 5 = some i0 ∧ i0.zero = some (.int .u8 0) ∧ i0.size = 1 ∧ i0.bytes = 1 := info_parts Pack.u8_info
/-- a row of bytes that isn't nil -/
theorem row_some {w : World} {B n : Nat} {e : TypeId} {v : Value} {xs : List Value} (h : w.ownsRow B e 1 v n xs) (hn : v ≠ .slice none 0 0) : ∃ g c, v = .slice (some ⟨g, 0, none⟩) n c := by
  rcases h.2 with ⟨e, _⟩ | ⟨g, cap, _, e, _⟩
  · exact absurd e hn
  · exact ⟨g, cap, e⟩
theorem row_lt {w : World} {B g n c : Nat} {e : TypeId} {xs : List Value} (h : w.ownsRow B e 1 (.slice (some ⟨g, 0, none⟩) n c) n xs) : g < w.heap.size := by
  rcases h.2 with ⟨e, _⟩ | ⟨g', cap, _, e, _, hg, _⟩
  · cases e
  · injection e with e
    injection e with e
    injection e with e
    subst e
    exact Pm.lt_of_some hg
theorem own_bytes {w : World} {B g n c : Nat} {l : List Nat} (h : w.ownsRow B 5 1 (.slice (some ⟨g, 0, none⟩) n c) n (Pack.u8s l)) (hb : Pack.Byt l) (hn : n ≤ 9223372036854775807) : Pack.Bts w (some ⟨g, 0, none⟩) l := Pack.own_bts h hb hn
set_option maxRecDepth 100000 in
/-- a copy of bytes: a row of the call's own -/
theorem copy_own {W : World} {A : Option Addr} {l : List Nat} (c : Nat) (h : Pack.Bts W A l) (hA : A = none → c = 0) (hl : l.length ≤ 1000000) :
    ∃ (g gc : Nat) (w' : World), (Builtin.append_ #[59, 59] 59 #[.slice (some ⟨W.heap.size, 0, none⟩) 0 0, .slice A l.length c]).run Tryz.prog (W.alloc (.cells #[] 5)) = .ok (.slice (some ⟨g, 0, none⟩) l.length gc) w' ∧ w'.ownsRow W.heap.size 5 1 (.slice (some ⟨g, 0, none⟩) l.length gc) l.length (Pack.u8s l) ∧ Below W.heap.size W w' := by
  obtain ⟨i0, hi0, hz0, hz1, hz2⟩ := u8_parts
  have hown : (W.alloc (.cells #[] 5)).ownsRow W.heap.size 5 1 (.slice (some ⟨W.heap.size, 0, none⟩) 0 0) 0 [] := World.ownsRow_made W #[] 0 (Nat.le_refl _) (by unfold maxLen; omega) rfl
  have hb := (Below.refl W.heap.size W).alloc (Nat.le_refl _) (.cells #[] 5)
  cases A with
  | none =>
    have hl0 : l = [] := by
      cases l with
      | nil => rfl
      | cons b l =>
        obtain ⟨_, _, e, _⟩ := h.at' 0 (by simp)
        cases e
    subst hl0
    rw [hA rfl]
    exact ⟨_, _, _, run_append_owned_none (P := Tryz.prog) _ W.heap.size 59 59 5 i0 1 Tryz.underlying59 hi0 _ 0 [] hown, hown, hb⟩
  | some ad =>
    obtain ⟨ab, ao, an⟩ := ad
    obtain ⟨v', w', hr, h2, h3, h4, _⟩ := run_append_own_at (P := Tryz.prog) (W.alloc (.cells #[] 5)) W.heap.size 59 59 5 i0 (.int .u8 0) 1 1 Tryz.underlying59 hi0 hz0 hz1 hz2 rfl (by decide) _ 0 [] hown ⟨ab, ao, an⟩ l.length c (Pack.u8s l) (by simp [Pack.u8s]) (fun j u hu => by
      have hj : j < l.length := by
        have := (List.getElem?_eq_some_iff.1 hu).1
        simpa [Pack.u8s] using this
      obtain ⟨b', o', e, _, hc⟩ := (h.alloc (.cells #[] 5)).at' j hj
      injection e with e
      injection e with e1 e2 e3
      subst e1 e2 e3
      rw [Go.WideShapes.add_plain, hc, ← hu]
      simp [Pack.u8s, List.getElem?_map, List.getElem?_eq_getElem hj]) (Pack.u8s_one l) (by unfold maxLen; omega) (by omega) (by simp)
    rw [Nat.zero_add, List.nil_append] at h2
    obtain ⟨g, gc, rfl⟩ := row_some h2 (fun e => by
      have := (h4.1 e).1
      cases this)
    exact ⟨g, gc, w', hr, h2, hb.grown h3 (by simp) (fun k hk => Pack.row_base_lt hown hk)⟩
set_option maxRecDepth 100000 in
/-- noughts behind a row of the call's own: append by a number -/
theorem zeros_own {W : World} {B g n c z : Nat} {l : List Nat} (hown : W.ownsRow B 5 1 (.slice (some ⟨g, 0, none⟩) n c) n (Pack.u8s l)) (hB : B ≤ W.heap.size) (hn : n + z ≤ 1000000) :
    ∃ (g' gc : Nat) (w' : World), (Builtin.append_ #[59, 3] 59 #[.slice (some ⟨g, 0, none⟩) n c, .int .i64 (z : Int)]).run Tryz.prog W = .ok (.slice (some ⟨g', 0, none⟩) (n + z) gc) w' ∧ w'.ownsRow B 5 1 (.slice (some ⟨g', 0, none⟩) (n + z) gc) (n + z) (Pack.u8s (l ++ List.replicate z 0)) ∧ W.grownBy w' (some g) := by
  obtain ⟨i0, hi0, hz0, hz1, hz2⟩ := u8_parts
  have hlen := hown.1
  have hsize : ∀ k : Nat, Builtin.zeroCells (Value.int .u8 0).cells k = (List.replicate k (Value.int .u8 0)).toArray := by
    intro k
    simp only [Builtin.zeroCells, Value.cells]
    apply Array.ext
    · simp
    · intro i h1 h2
      simp [Nat.mod_one]
  have hw0 : IntKind.i64.wrap 0 = 0 := by decide
  have hus : Pack.u8s (l ++ List.replicate z 0) = Pack.u8s l ++ List.replicate z (Value.int .u8 0) := by
    simp [Pack.u8s, List.map_append, List.map_replicate]
  have hwr : IntKind.i64.wrap (z : Int) = z := by rw [IntKind.wrap_i64]; omega
  have hneg : ¬ ((z : Int) < 0) := by omega
  have h48i : ¬ (281474976710656 < (z : Int)) := by omega
  rw [hus]
  rcases hown.2 with ⟨e, _⟩ | ⟨g0, cap, cur, e, hbg, hg, hnc, hcm, hcs, htake⟩
  · cases e
  injection e with e e2 e3
  injection e with e
  injection e with e
  subst e e3
  rw [Nat.mul_one] at hcs htake
  by_cases hroom : n + z ≤ c
  · have hst := run_storeCells_at Tryz.prog g n 5 (List.replicate z (Value.int .u8 0)) 0 cur W hg (by simp; omega) (by
      intro u hu
      rw [(List.mem_replicate.1 hu).2]
      rfl)
    simp only [Nat.add_zero, List.length_replicate] at hst
    refine ⟨g, c, W.setRow g (cur.toList.take n ++ List.replicate z (Value.int .u8 0) ++ cur.toList.drop (n + z)).toArray, ?_, ⟨by simp [hlen], .inr ⟨g, c, _, rfl, hbg, setRow_heap W g cur _ _ _ hg, hroom, hcm, ?_, ?_⟩⟩, ⟨rfl, rfl, rfl, by simp, fun k _ hk => setRow_other W g k _ (fun e => hk (by rw [e]))⟩⟩
    · rcases Nat.eq_zero_or_pos z with rfl | hz
      · simp only [List.replicate_zero, List.append_nil, Nat.add_zero] at hst ⊢
        simp [Builtin.append_, run_underlying (P := Tryz.prog) Tryz.underlying59, run_underlying (P := Tryz.prog) Tryz.underlying3, sizeOf, typeInfo, zeroValue, hi0, hz0, hz1, hz2, asInt, asIntOf, hnc, hw0, Addr.add_lit, hst]
      · have hz' : z ≠ 0 := by omega
        simp [Builtin.append_, run_underlying (P := Tryz.prog) Tryz.underlying59, run_underlying (P := Tryz.prog) Tryz.underlying3, sizeOf, typeInfo, zeroValue, hi0, hz0, hz1, hz2, asInt, asIntOf, hwr, hneg, h48i, hroom, hz', hsize, Addr.add_lit, hst]
    · simp
      omega
    · rw [Nat.mul_one]
      rw [htake]
      show List.take (n + z) (Pack.u8s l ++ List.replicate z (Value.int .u8 0) ++ _) = _
      rw [List.take_append_of_le_length (by simp [hlen]), List.take_of_length_le (by simp [hlen])]
  · have holds : ∀ j u, (Pack.u8s l)[j]? = some u → W.cell? ((⟨g, 0, none⟩ : Addr).add j) = some u := hown.cells (g := g) rfl
    have hold := run_firstCells_some (P := Tryz.prog) W.drew 1 n ⟨g, 0, none⟩ n c (Pack.u8s l) hlen (by simpa using holds)
    have hz : z ≠ 0 := by omega
    have h63 : ¬ (9223372036854775807 < (n : Int) + (z : Int)) := by omega
    have hfit : Builtin.nextslicecap (n + z) c * 1 ≤ 281474976710656 := growslice_fits (by omega) (by omega)
    have h48 : ¬ (281474976710656 < Builtin.nextslicecap (n + z) c) := by omega
    have hge := grownCap_ge W (n + z) c 5
    have hcm' : grownCap W (n + z) c 5 ≤ maxLen := grownCap_le_maxLen W (n + z) c _ (by unfold maxLen; omega)
    refine ⟨W.heap.size, grownCap W (n + z) c 5, W.drew.alloc (.cells ((Pack.u8s l).toArray ++ (List.replicate z (Value.int .u8 0)).toArray ++ (List.replicate (grownCap W (n + z) c 5 - (n + z)) (Value.int .u8 0)).toArray) 5), ?_, ⟨by simp [hlen], .inr ⟨W.heap.size, _, _, rfl, hB, heap_alloc_new W.drew _, hge, hcm', ?_, ?_⟩⟩, ⟨rfl, rfl, rfl, by simp, fun k hk _ => Below.heap_alloc W.drew _ k hk⟩⟩
    · simp [Builtin.append_, run_underlying (P := Tryz.prog) Tryz.underlying59, run_underlying (P := Tryz.prog) Tryz.underlying3, sizeOf, typeInfo, zeroValue, hi0, hz0, hz1, hz2, asInt, asIntOf, hwr, hneg, h48i, hroom, hz, hsize, h63, h48, Question.forced, hold, newRow, grownCap]
    · simp [hlen]
      omega
    · rw [Nat.mul_one]
      simp only [Array.toList_append]
      rw [List.take_append_of_le_length (by simp [hlen]), List.take_of_length_le (by simp [hlen])]
/-- an append whose run is known, of two types -/
theorem wpList_append_run2 {P : Program} {w w' : World} {ops : Array Oper} {rest : List Oper} {o : Oper} {a : Act} {Q : Exit → Act → World → Prop} (hgd : o.guard = none) (s x : Operand) (t t2 : TypeId)
    (ho : o.op = .call { callee := .builtin .append, args := #[s, x], argTypes := #[t, t2] }) (v u v' : Value) (hs : a.eval s = v) (hx : a.eval x = u) (hr : (Builtin.append_ #[t, t2] o.type #[v, u]).run P w = .ok v' w')
    (h : wpList P ops Q rest (a.put o.dst v') w') : wpList P ops Q (o :: rest) a w := by
  refine wpList_plain hgd fun K hK => ?_
  unfold Oper.wp execOp
  simp only [ho, resolve, invoke, builtin, Sem.run_bind, Sem.run_pure, Result.andThen_ok, List.map_toArray, List.map_cons, List.map_nil, hs, hx, hr]
  exact hK _ _ h
/-- eight bytes a word, and back -/
theorem flat_words {b : List Nat} (h : Pack.Byt b) {q : Nat} (hq : b.length = 8 * q) : Pack.wflat (Pack.wrds b) = b := by
  have h1 := Pack.back_take h
  have h2 := Pack.back_len b
  rw [List.take_of_length_le (by rw [h2, hq]; omega)] at h1
  exact h1
section
variable {Q : Nat → Prop} {w w' : World} {vb a n m s : Nat} {W : List Nat} {st sn : Nat}
theorem Up.grown (h : Up Q w a W st sn) {row : Option Nat} (hg : w.grownBy w' row) (hr : ∀ k, row = some k → Q k) : Up Q w' a W st sn := by
  obtain ⟨A, ⟨D, hrep, e, ok, hf, hq⟩, r⟩ := h
  exact ⟨A, ⟨D, hrep.keep (fun k hk => hg.block k (hrep.foot_lt hk) (fun e => hf k hk (hr k e.symm))), e, ok, hf, fun k hk => Nat.lt_of_lt_of_le (hq k hk) hg.size⟩, r⟩
theorem Vo.grown (h : Vo Q w vb a n m s W st sn) {row : Option Nat} (hg : w.grownBy w' row) (hr : ∀ k, row = some k → Q k) (hne : row ≠ some vb) : Vo Q w' vb a n m s W st sn :=
  ⟨(hg.block vb h.lt (fun e => hne e.symm)).trans h.vol, h.q, h.up.grown hg hr, h.may, h.len⟩
end
end Vol
end Go.Proofs.YtcojgpjappjobaaGreatDoor
/- VolumeBlocks, walked. -/
namespace Go.Proofs.YtcojgpjappjobaaGreatDoor
open Go.RowKit Go.MapKept
namespace Vol
section
variable {ws d : List Nat}
set_option maxHeartbeats 4000000 in
set_option maxRecDepth 100000 in
theorem blocks_law (w : World) (hT : Bm.Tab w) (x y k : Nat) (hx : x < 256) (hy : y < 256) (hk : k < 256) (A : Option Addr) (c : Nat) (hws : Pack.Wds w A ws) (i : Int) (B : Option Addr) (cb : Nat) (hd : Pack.Bts w B d) (hB0 : B = none → cb = 0) :
    Calls Tryz.prog 6 #[.agg #[.int .u8 (x : Int), .int .u8 (y : Int), .int .u8 (k : Int), .slice A ws.length c], .int .i64 i, .slice B d.length cb] w fun r w' => r = .returned (.bool true) ∧ Below w.heap.size w w' := by
  have HD := Lib.hid hd
  have HBN := Lib.hid hB0
  have hdl := hd.len
  clear hd hB0
  obtain ⟨sl, bm, bk, E, hpl⟩ := pl_any x y k
  have HL := Lib.hid (fun w' (hb : Below w.heap.size w w') => lives_any w' (hT.below hb hT.lt))
  have HO := Lib.hid (fun w' (hb : Below w.heap.size w w') => lopen_any w' x y k hx hy hk A c (hws.keep hb) hpl)
  have HP := Lib.hid hpl
  obtain ⟨n, hn⟩ : ∃ n, n = gn x := ⟨_, rfl⟩
  obtain ⟨m, hm⟩ : ∃ m, m = gn y := ⟨_, rfl⟩
  obtain ⟨s, hs⟩ : ∃ s, s = gs k := ⟨_, rfl⟩
  rw [← hn, ← hm, ← hs] at HP HO
  clear hn hm hs hpl hT hws
  go_enter Tryz.func6, Tryz.ntmps6
  have hb0 := (Below.refl w.heap.size w).alloc (Nat.le_refl _) (.cells #[.int .u8 (x : Int), .int .u8 (y : Int), .int .u8 (k : Int), .slice A ws.length c] 24)
  have HR1 := Lib.hid (hb_new w #[.int .u8 (x : Int), .int .u8 (y : Int), .int .u8 (k : Int), .slice A ws.length c] 24)
  have HB1 := Lib.hid hb0
  clear hb0
  go_wp2_with fail
  generalize w.alloc (.cells #[.int .u8 (x : Int), .int .u8 (y : Int), .int .u8 (k : Int), .slice A ws.length c] 24) = w1 at *
  refine (HL.out _ HB1.out).mono ?_
  rintro e w2 ⟨rfl, hb⟩
  have HR2 := Lib.hid (HR1.out.keep hb)
  have HB2 := Lib.hid (HB1.out.trans (hb.mono HB1.out.size))
  clear hb HB1 HR1
  have r0 := HR2.out.cell 0
  have r1 := HR2.out.cell 1
  have r2 := HR2.out.cell 2
  have r3 := HR2.out.cell 3
  have rl := HR2.out.lt
  by_cases hlong : 300 < d.length
  · have hg : decide (300 < (d.length : Int)) = true := decide_eq_true (by omega)
    go_wp2_with fail
    refine (HL.out _ HB2.out).mono ?_
    rintro e w3 ⟨rfl, hb⟩
    have HB3 := Lib.hid (HB2.out.trans (hb.mono HB2.out.size))
    clear hb
    go_wp2
    go_ret
    exact ⟨rfl, HB3.out⟩
  have hd300 : d.length ≤ 300 := by omega
  have hg : decide (300 < (d.length : Int)) = false := decide_eq_false (by omega)
  have HD300 := Lib.hid hd300
  clear hlong
  go_wp2_with fail
  refine (HO.out _ HB2.out).mono ?_
  rintro e w3 ⟨Q, vb, a, g, gc, rfl, hov⟩
  clear r0 r1 r2 r3 rl HR2
  have HB3 := Lib.hid (HB2.out.trans (hov.below.mono HB2.out.size))
  have HQW := Lib.hid (show ∀ k, k < w.heap.size → Q k from fun k hk => hov.ql k (Nat.lt_of_lt_of_le hk HB2.out.size))
  have HQG := Lib.hid hov.qg
  have HLN := Lib.hid hov.len
  have hb4 := (Below.refl w3.heap.size w3).alloc (Nat.le_refl _) (.cells (dv n m s sl bm bk E (.slice (some ⟨g, 0, none⟩) E gc)) 30)
  have hx4 := hb_new w3 (dv n m s sl bm bk E (.slice (some ⟨g, 0, none⟩) E gc)) 30
  obtain ⟨go, gco, w5, hrun, hown, hb5⟩ := copy_own (W := w3.alloc (.cells (dv n m s sl bm bk E (.slice (some ⟨g, 0, none⟩) E gc)) 30)) cb (HD.out.keep (HB3.out.trans (hb4.mono HB3.out.size))) HBN.out (by omega)
  have hb35 := hb4.trans (hb5.mono hb4.size)
  have hgo1 := Pack.row_base_lt hown (g := go) rfl
  have hgo2 := row_lt hown
  rw [World.size_alloc] at hrun hgo1 hown
  have HOWN := Lib.hid hown
  have HX5 := Lib.hid (hx4.keep hb5)
  obtain ⟨Q5, hQ5⟩ : ∃ Q5 : Nat → Prop, Q5 = fun k => Q k ∨ (w3.heap.size ≤ k ∧ k < w5.heap.size) := ⟨_, rfl⟩
  have hv5 := hov.vo.grow hb35
  rw [← hQ5] at hv5
  have HV5 := Lib.hid hv5
  have HQ5 := Lib.hid (show (Q5 w3.heap.size ∧ Q5 go) ∧ ∀ k, Q k → Q5 k by rw [hQ5]; exact ⟨⟨.inr ⟨Nat.le_refl _, by omega⟩, .inr ⟨by omega, hgo2⟩⟩, fun k h => .inl h⟩)
  have HVB := Lib.hid (show vb ≠ go ∧ w3.heap.size + 1 ≤ go ∧ g < w3.heap.size ∧ w.heap.size ≤ w3.heap.size from ⟨by have := hov.vo.lt; omega, hgo1, hov.vo.up.lt _ hov.qg, HB3.out.size⟩)
  have HD5 := Lib.hid (hov.wds.keep hb35)
  have HB5 := Lib.hid (HB3.out.trans (hb35.mono HB3.out.size))
  have HRUN := Lib.hid hrun
  have hbo := own_bytes hown HD.out.byt (by omega)
  have hcv1 := Pack.conv_str gco hbo
  clear hb4 hx4 hrun hown hb5 hb35 hgo1 hgo2 hQ5 hv5 hov HB3 hcv1 hbo
  unfold dv at HRUN HX5 ⊢
  go_wp2_with (at_builtin; refine Bm.wpList_append_run rfl (.tmp 29) (.tmp 30) 59 rfl _ _ _ rfl rfl HRUN.out ?_)
  generalize w3.heap.size = b3 at *
  have hst := HP.out.at
  have HE0 := Lib.hid (show 0 < E ∧ E ≤ 540 by have := HP.out.n20; omega)
  clear hst
  rcases Int.lt_or_le i 0 with hi | hi
  · have HC := Lib.hid (setBlock_out HV5.out i (some ⟨go, 0, none⟩) d.length gco (.inl hi))
    go_wp2_with fail
    refine HC.out.mono ?_
    rintro e w6 ⟨rfl, hb⟩
    have HX6 := Lib.hid (HX5.out.keep hb)
    have HST := Lib.hid (still_e (sl := sl) (bm := bm) (bk := bk) (HV5.out.keep hb) g gc (HD5.out.keep hb) HLN.out HE0.out.1)
    have HB6 := Lib.hid (HB5.out.trans (hb.mono HB5.out.size))
    have hcv1 := Pack.conv_str gco ((own_bytes HOWN.out HD.out.byt (by omega)).keep hb)
    have hcv2 := Pack.conv_str cb (HD.out.keep HB6.out)
    generalize Pack.str d = S at *
    clear hb HC HX5 HV5 HD5 HOWN HB5
    have c0 := HX6.out.cell 0
    have c1 := HX6.out.cell 1
    have c2 := HX6.out.cell 2
    have c3 := HX6.out.cell 3
    have c4 := HX6.out.cell 4
    have c5 := HX6.out.cell 5
    have c6 := HX6.out.cell 6
    have c7 := HX6.out.cell 7
    have c8 := HX6.out.cell 8
    have hxl := HX6.out.lt
    unfold dv at HST
    go_wp2_with fail
    refine HST.out.mono ?_
    rintro e w8 ⟨rfl, hb⟩
    have HB8 := Lib.hid (HB6.out.trans (hb.mono HB6.out.size))
    clear hb
    go_wp2
    go_ret
    exact ⟨rfl, HB8.out⟩
  rcases Int.lt_or_le i (n : Int) with hin | hin
  · obtain ⟨j, rfl⟩ := Int.eq_ofNat_of_zero_le hi
    have hjn : j < n := by omega
    obtain ⟨q, hq⟩ : ∃ q, s = 8 * q := ⟨s / 8, by rcases HP.out.s2 with h | h <;> omega⟩
    rcases Nat.lt_or_ge s d.length with hsl | hsl
    · have HC := Lib.hid (setBlock_long HV5.out HP.out.e3 hq j hjn (some ⟨go, 0, none⟩) d.length gco hsl)
      have HQ := Lib.hid hq
      clear hq
      go_wp2_with fail
      refine HC.out.mono ?_
      rintro e w6 ⟨rfl, hb⟩
      have HX6 := Lib.hid (HX5.out.keep hb)
      have HST := Lib.hid (still_e (sl := sl) (bm := bm) (bk := bk) (HV5.out.keep hb) g gc (HD5.out.keep hb) HLN.out HE0.out.1)
      have HB6 := Lib.hid (HB5.out.trans (hb.mono HB5.out.size))
      have hcv1 := Pack.conv_str gco ((own_bytes HOWN.out HD.out.byt (by omega)).keep hb)
      have hcv2 := Pack.conv_str cb (HD.out.keep HB6.out)
      generalize Pack.str d = S at *
      clear hb HC HX5 HV5 HD5 HOWN HB5
      have c0 := HX6.out.cell 0
      have c1 := HX6.out.cell 1
      have c2 := HX6.out.cell 2
      have c3 := HX6.out.cell 3
      have c4 := HX6.out.cell 4
      have c5 := HX6.out.cell 5
      have c6 := HX6.out.cell 6
      have c7 := HX6.out.cell 7
      have c8 := HX6.out.cell 8
      have hxl := HX6.out.lt
      unfold dv at HST
      go_wp2_with fail
      refine HST.out.mono ?_
      rintro e w8 ⟨rfl, hb⟩
      have HB8 := Lib.hid (HB6.out.trans (hb.mono HB6.out.size))
      clear hb
      go_wp2
      go_ret
      exact ⟨rfl, HB8.out⟩
    · have HDZ := Lib.hid (show (dz d s).length = s ∧ Pack.Byt (dz d s) from ⟨dz_len hsl, dz_byt HD.out.byt s⟩)
      have HC := Lib.hid (setBlock_yes HV5.out HP.out.e3 hq j hjn go 0 gco d (own_bytes HOWN.out HD.out.byt (by omega)) hsl (by have := HP.out.s2; omega))
      have HQ := Lib.hid hq
      have HAT := Lib.hid (show 1 ≤ n ∧ bk + j * q + q ≤ E from ⟨by omega, by
        obtain ⟨bk', q', e1, e2, _, _, e5, _⟩ := HV5.out.blk
        have e6 := HP.out.e3
        have e7 : bk' = bk := by omega
        have e8 : q' = q := by omega
        subst e7 e8
        rw [HLN.out] at e5
        have h2 : (j + 1) * q' ≤ n * q' := Nat.mul_le_mul_right q' (by omega)
        rw [Nat.add_mul, Nat.one_mul] at h2
        omega⟩)
      have hwl : (Pack.wrds (dz d s)).length = q := by rw [Pack.wrds_len, HDZ.out.1]; omega
      have HFW := Lib.hid (flat_words HDZ.out.2 (q := q) (by rw [HDZ.out.1]; exact hq))
      have HWL := Lib.hid (show (Pack.wrds (dz d s)).length = q ∧ ∀ x ∈ Pack.wrds (dz d s), x < 18446744073709551616 from ⟨hwl, Pack.wrds_u64 HDZ.out.2⟩)
      clear hq hwl
      go_wp2_with fail
      refine HC.out.mono ?_
      rintro e w6 ⟨rfl, hv, hkq⟩
      have hlt5 := HV5.out.up.lt
      have HX6 := Lib.hid (HX5.out.kq hkq HQ5.out.1.1)
      have HD6 := Lib.hid (show Pack.Wds w6 (some ⟨g, 0, none⟩) (rawW n m s E ws) from wds_block HD5.out (hkq.at (HQ5.out.2 _ HQG.out) (hlt5 _ (HQ5.out.2 _ HQG.out))))
      have hown6 := Pm.row_keep HOWN.out (w' := w6) (fun k hk => by
        injection hk with hk
        subst hk
        exact hkq.at HQ5.out.1.2 (hlt5 _ HQ5.out.1.2))
      have HOWN6 := Lib.hid hown6
      have HB6 := Lib.hid (HB5.out.trans (hkq.below HB5.out.size (fun k hk => HQ5.out.2 _ (HQW.out k hk))))
      have hcv1 := Pack.conv_str gco (own_bytes hown6 HD.out.byt (by omega))
      have hcv2 := Pack.conv_str cb (HD.out.keep HB6.out)
      generalize Pack.str d = S at *
      have HV6 := Lib.hid hv
      clear hv hkq hown6 HC HX5 HV5 HD5 HOWN HB5 hlt5
      have c0 := HX6.out.cell 0
      have c1 := HX6.out.cell 1
      have c2 := HX6.out.cell 2
      have c3 := HX6.out.cell 3
      have c4 := HX6.out.cell 4
      have c5 := HX6.out.cell 5
      have c6 := HX6.out.cell 6
      have c7 := HX6.out.cell 7
      have c8 := HX6.out.cell 8
      have hxl := HX6.out.lt
      obtain ⟨z, hz⟩ : ∃ z, z = s - d.length := ⟨_, rfl⟩
      have hzi : (s : Int) - (d.length : Int) = (z : Int) := by omega
      have hzl : z ≤ 128 := by have := HP.out.s2; omega
      have hb36 := HX6.out.lt
      have HLZ := Lib.hid (show d.length + z = s by omega)
      obtain ⟨ga, gca, w7, hrun7, hown7, hgr7⟩ := zeros_own (z := z) HOWN6.out (by omega) (by omega)
      have HRUN7 := Lib.hid hrun7
      have HZW := Lib.hid (show IntKind.wrap .i64 ((s : Int) - (d.length : Int)) = (z : Int) by rw [hzi, IntKind.wrap_i64]; omega)
      rw [HLZ.out] at hown7
      have hdz : d ++ List.replicate z 0 = dz d s := by unfold dz; rw [hz]
      rw [hdz] at hown7
      have HO7 := Lib.hid hown7
      clear hdz
      have HV7 := Lib.hid (HV6.out.grown hgr7 (fun k hk => by
        injection hk with hk
        subst hk
        exact HQ5.out.1.2) (fun e => HVB.out.1 (by injection e with e; exact e.symm)))
      have HX7 := Lib.hid (hb_grown HX6.out hgr7 (fun e => by
        injection e with e
        have := HVB.out
        omega))
      have HD7 := Lib.hid (wds_block HD6.out (hgr7.block g (by have := HVB.out; omega) (fun e => by
        injection e with e
        have := HVB.out
        omega)))
      have HB7 := Lib.hid (HB6.out.grown hgr7 HB6.out.size (fun k hk => by
        injection hk with hk
        have := HVB.out
        omega))
      clear hrun7 hown7 hgr7 HX6 HV6 HD6 HB6 HOWN6 hb36
      go_wp2_with (at_builtin; refine wpList_append_run2 rfl (.tmp 68) (.tmp 73) 59 3 rfl _ (.int .i64 (z : Int)) _ rfl (congrArg (fun t : Nat => Value.int .i64 (t : Int)) hz.symm) HRUN7.out ?_)
      clear c0 c1 c2 c3 c4 c5 c6 c7 c8 hxl
      have c0 := HX7.out.cell 0
      have c1 := HX7.out.cell 1
      have c2 := HX7.out.cell 2
      have c3 := HX7.out.cell 3
      have c4 := HX7.out.cell 4
      have c5 := HX7.out.cell 5
      have c6 := HX7.out.cell 6
      have c7 := HX7.out.cell 7
      have c8 := HX7.out.cell 8
      have hxl := HX7.out.lt
      have HC := Lib.hid (block_yes HV7.out HP.out.e3 HQ.out j hjn)
      go_wp2_with fail
      refine HC.out.mono ?_
      rintro e w8 ⟨G, Gc, rfl, hGc, hG, hb⟩
      rw [show rdw (puts (rawW n m s E ws) (sto (bk + j * q) (Pack.wrds (dz d s)))) (bk + j * q) q = Pack.wrds (dz d s) from by
        have h1 := rdw_puts (rawW n m s E ws) (bk + j * q) (Pack.wrds (dz d s)) (by rw [HWL.out.1, HLN.out]; exact HAT.out.2)
        rw [HWL.out.1] at h1
        exact h1, HFW.out] at hG
      have hall := (own_bytes HO7.out HDZ.out.2 (by have := HLZ.out; omega)).keep hb
      have HCV := Lib.hid (fun (W : World) (hW : Below w8.heap.size w8 W) => show (convert 59 9 (.slice G (8 * q) Gc)).run Tryz.prog W = .ok (.string (Pack.str (dz d s))) W ∧ (convert 59 9 (.slice (some ⟨ga, 0, none⟩) s gca)).run Tryz.prog W = .ok (.string (Pack.str (dz d s))) W from by
        have h1 := Pack.conv_str Gc (hG.keep hW)
        have h2 := Pack.conv_str gca (hall.keep hW)
        rw [HDZ.out.1.trans HQ.out] at h1
        rw [HDZ.out.1] at h2
        exact ⟨h1, h2⟩)
      have hst := Pack.str_size (dz d s)
      rw [HDZ.out.1] at hst
      have hwrd := Pack.refWords_any (w := w8.drew) (Pack.str (dz d s)) (by rw [hst]; have := HP.out.s2; omega)
      rw [Pack.tx_str HDZ.out.2, HWL.out.1] at hwrd
      have HWRD := Lib.hid hwrd
      clear hst hwrd
      generalize Pack.str (dz d s) = S2 at *
      have HX8 := Lib.hid (HX7.out.keep hb)
      have hvv := HV7.out.keep hb
      obtain ⟨F, hF⟩ : ∃ F, F = bk + j * q := ⟨_, rfl⟩
      rw [← hF] at hvv
      have HV8 := Lib.hid (show Vo Q5 w8 vb a n m s (puts (rawW n m s E ws) (sto F (Pack.wrds (dz d s)))) ((Pack.wrds (dz d s)).length + lc F (Pack.wrds (dz d s)).length) (Pack.wrds (dz d s)).length by
        rw [HWL.out.1]
        simpa using hvv)
      have HD8 := Lib.hid (HD7.out.keep hb)
      have HB8 := Lib.hid (HB7.out.trans (hb.mono HB7.out.size))
      have HFE := Lib.hid (show F + q ≤ E by have := HAT.out.2; omega)
      clear hb hG hall HX7 HV7 HD7 HB7 HC c0 c1 c2 c3 c4 c5 c6 c7 c8 hxl hvv
      obtain ⟨JS, hJS⟩ : ∃ JS, JS = j * s := ⟨_, rfl⟩
      have hjs : (j : Int) * (s : Int) = (JS : Int) := by rw [hJS]; exact (Int.natCast_mul j s).symm
      obtain ⟨JQ, hJQ⟩ : ∃ JQ, JQ = j * q := ⟨_, rfl⟩
      have h8 : JS = 8 * JQ := by rw [hJS, hJQ, HQ.out, Nat.mul_left_comm]
      have hjq : (JS : Int) / 8 = (JQ : Int) := by omega
      have hsum : (bk : Int) + (JQ : Int) = (F : Int) := by omega
      have hFb : F ≤ 540 := by have := HFE.out; have := HE0.out; omega
      have hw1 : IntKind.wrap .i64 (JS : Int) = (JS : Int) := by rw [IntKind.wrap_i64]; omega
      have hw2 : IntKind.wrap .i64 (F : Int) = (F : Int) := by rw [IntKind.wrap_i64]; omega
      have hw3 : IntKind.wrap .i64 (JQ : Int) = (JQ : Int) := by rw [IntKind.wrap_i64]; omega
      have HH8 := Lib.hid h8
      clear hF hJS hJQ h8
      have c0 := HX8.out.cell 0
      have c1 := HX8.out.cell 1
      have c2 := HX8.out.cell 2
      have c3 := HX8.out.cell 3
      have c4 := HX8.out.cell 4
      have c5 := HX8.out.cell 5
      have c6 := HX8.out.cell 6
      have c7 := HX8.out.cell 7
      have c8 := HX8.out.cell 8
      have hxl := HX8.out.lt
      obtain ⟨hcv3, hcv4⟩ := HCV.out w8.drew (below_d w8)
      go_wp2_with fail
      go_region_held3 (fun W' => ((convert 59 9 (.slice G (8 * q) Gc)).run Tryz.prog W' = .ok (.string S2) W' ∧ (convert 59 9 (.slice (some ⟨ga, 0, none⟩) s gca)).run Tryz.prog W' = .ok (.string S2) W') ∧ W'.cell? ⟨b3, 2, none⟩ = some (.int .i64 (s : Int)) ∧ W'.cell? ⟨b3, 0, none⟩ = some (.int .i64 (n : Int)) ∧ W'.cell? ⟨b3, 1, none⟩ = some (.int .i64 (m : Int)) ∧ W'.cell? ⟨b3, 3, none⟩ = some (.int .i64 16) ∧ W'.cell? ⟨b3, 4, none⟩ = some (.int .i64 (sl : Int)) ∧ W'.cell? ⟨b3, 5, none⟩ = some (.int .i64 (bm : Int)) ∧ W'.cell? ⟨b3, 6, none⟩ = some (.int .i64 (bk : Int)) ∧ W'.cell? ⟨b3, 7, none⟩ = some (.int .i64 (E : Int)) ∧ W'.cell? ⟨b3, 8, none⟩ = some (.slice (some ⟨g, 0, none⟩) E gc)) (first | exact ⟨⟨by assumption, by assumption⟩, by go_keep⟩ | go_keep)
        (first
        | (go_at_call 35
           with_reducible refine HWRD.out.mono ?_
           rintro e w9 ⟨G2, gc2, rfl, hw2, hb⟩
           have HW9 := Lib.hid hw2
           have HX9 := Lib.hid ((show Hb w8.drew b3 _ _ from HX8.out).keep hb)
           have hb9 := (bel_d w8).trans (hb.mono (bel_d w8).size)
           obtain ⟨hcv5, hcv6⟩ := HCV.out w9 hb9
           have HV9 := Lib.hid (HV8.out.keep hb9)
           have HD9 := Lib.hid (HD8.out.keep hb9)
           have HB9 := Lib.hid (HB8.out.trans (hb9.mono HB8.out.size))
           have d0 := HX9.out.cell 0
           have d1 := HX9.out.cell 1
           have d2 := HX9.out.cell 2
           have d3 := HX9.out.cell 3
           have d4 := HX9.out.cell 4
           have d5 := HX9.out.cell 5
           have d6 := HX9.out.cell 6
           have d7 := HX9.out.cell 7
           have d8 := HX9.out.cell 8
           have hxl9 := HX9.out.lt
           clear hb hw2)
        | (go_at_call 31
           have hwr := wrote_any (sl := sl) (bm := bm) (bk := bk) F (Pack.wrds (dz d s)) HV9.out g gc HD9.out HLN.out (by have := HE0.out; omega) (by have := HE0.out; omega) G2 gc2 HW9.out (by rw [HWL.out.1]; exact HFE.out)
           rw [HWL.out.1] at hwr
           unfold dv at hwr
           refine Calls.mono hwr ?_
           rintro e w10 ⟨rfl, hb⟩
           have HB10 := Lib.hid (HB9.out.trans (hb.mono HB9.out.size))
           have HX10 := Lib.hid (HX9.out.keep hb)
           obtain ⟨hcv7, hcv8⟩ := HCV.out w10 (hb9.trans (hb.mono hb9.size))
           have e0 := HX10.out.cell 0
           have e1 := HX10.out.cell 1
           have e2 := HX10.out.cell 2
           have e3 := HX10.out.cell 3
           have e4 := HX10.out.cell 4
           have e5 := HX10.out.cell 5
           have e6 := HX10.out.cell 6
           have e7 := HX10.out.cell 7
           have e8 := HX10.out.cell 8
           have hxl10 := HX10.out.lt
           clear hb hwr))
      go_wp2
      go_ret
      exact ⟨rfl, HB10.out⟩
  · have HC := Lib.hid (setBlock_out HV5.out i (some ⟨go, 0, none⟩) d.length gco (.inr hin))
    go_wp2_with fail
    refine HC.out.mono ?_
    rintro e w6 ⟨rfl, hb⟩
    have HX6 := Lib.hid (HX5.out.keep hb)
    have HST := Lib.hid (still_e (sl := sl) (bm := bm) (bk := bk) (HV5.out.keep hb) g gc (HD5.out.keep hb) HLN.out HE0.out.1)
    have HB6 := Lib.hid (HB5.out.trans (hb.mono HB5.out.size))
    have hcv1 := Pack.conv_str gco ((own_bytes HOWN.out HD.out.byt (by omega)).keep hb)
    have hcv2 := Pack.conv_str cb (HD.out.keep HB6.out)
    generalize Pack.str d = S at *
    clear hb HC HX5 HV5 HD5 HOWN HB5
    have c0 := HX6.out.cell 0
    have c1 := HX6.out.cell 1
    have c2 := HX6.out.cell 2
    have c3 := HX6.out.cell 3
    have c4 := HX6.out.cell 4
    have c5 := HX6.out.cell 5
    have c6 := HX6.out.cell 6
    have c7 := HX6.out.cell 7
    have c8 := HX6.out.cell 8
    have hxl := HX6.out.lt
    unfold dv at HST
    go_wp2_with fail
    refine HST.out.mono ?_
    rintro e w8 ⟨rfl, hb⟩
    have HB8 := Lib.hid (HB6.out.trans (hb.mono HB6.out.size))
    clear hb
    go_wp2
    go_ret
    exact ⟨rfl, HB8.out⟩
end
end Vol
end Go.Proofs.YtcojgpjappjobaaGreatDoor
/- Law 15's arguments, as they are read, opened: bytes, with room behind them only where there is a row. -/
namespace Go.Proofs.YtcojgpjappjobaaGreatDoor
open Go.ChangeShapes Go.WideShapes Go.ChangeAt Go.RowKit
namespace Vol
theorem cells_u8 : Tryz.prog.cellsOf 5 = 1 := by kernel_rfl
theorem open_bytes {H : Type} {enc : TypeId × Value → H} {W : World} {fuel : Nat} {sp : Nat → Bool} {held : Bool} {v : Value} {x : DataW H × List MemPlace} (h : DataW.trod enc Tryz.prog W 0 sp held fuel 59 [v] = some x) : ∃ A l c, v = .slice A l.length c ∧ (A = none → c = 0) ∧ Pack.Bts W A l := by
  obtain ⟨A, l, c, e, hc, hl, ha⟩ := Pack.open_ones (α := Nat) 0 (fun k u => u = .int .u8 (k : Int) ∧ k < 256) Tryz.underlying59 cells_u8 (fun n u y hu => by
    obtain ⟨k, e, _, hw⟩ := DataW.trod_int Tryz.underlying5 hu
    simp at e
    have hb := bounds_u8 hw
    obtain ⟨q, rfl⟩ := Int.eq_ofNat_of_zero_le hb.1
    exact ⟨q, e, by omega⟩) h
  refine ⟨A, l, c, e, hc, fun b hb => ?_, hl, fun j hj => ?_⟩
  · obtain ⟨j, hj, rfl⟩ := List.getElem_of_mem hb
    obtain ⟨_, _, _, _, _, _, _, h2⟩ := ha j hj
    exact h2
  · obtain ⟨b, o, u, e, h1, h2, rfl, _⟩ := ha j hj
    exact ⟨b, o, e, h1, h2⟩
end Vol
end Go.Proofs.YtcojgpjappjobaaGreatDoor
