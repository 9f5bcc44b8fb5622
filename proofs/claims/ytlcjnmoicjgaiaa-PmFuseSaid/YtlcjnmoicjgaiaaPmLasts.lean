/- PmLasts' walk. -/
import Derived.Test.YtlcjnmoicjgaiaaPmActs
namespace Go.Proofs.Ytlcjnmoicjgaiaa
open Go.RowKit Go.MapKept
namespace Pm

theorem acts_below {w w' : World} {A : Option Addr} {n : Nat} {f : Nat → ActV} (h : Acts w w.heap.size A n f) (hb : Below w.heap.size w w') : Acts w' w'.heap.size A n f := by
  refine ⟨h.1, fun i hi => ?_⟩
  obtain ⟨b, o, e, hlt, ha, hc⟩ := h.2 i hi
  have hk : ∀ j, w'.cell? ⟨b, j, none⟩ = w.cell? ⟨b, j, none⟩ := fun j => hb.cell (p := ⟨b, j, none⟩) hlt
  exact ⟨b, o, e, Nat.lt_of_lt_of_le hlt hb.size, ⟨(hk _).trans ha.c0, (hk _).trans ha.c1, (hk _).trans ha.c2, (hk _).trans ha.c3, ha.k0, ha.k1⟩, hc⟩
theorem bytes_below {w w' : World} {C : Option Addr} {n : Nat} (h : Bytes w C n) (hb : Below w.heap.size w w') : Bytes w' C n := by
  refine ⟨h.1, fun j hj => ?_⟩
  obtain ⟨b, o, c, e, hlt, h0, h1, hc⟩ := h.2 j hj
  exact ⟨b, o, c, e, Nat.lt_of_lt_of_le hlt hb.size, h0, h1, (hb.cell (p := ⟨b, o + j, none⟩) hlt).trans hc⟩
theorem off_below {w w' : World} (h : Off (fun _ => False) w w') : Below w.heap.size w w' := h.below (Nat.le_refl _) (fun _ h => h.elim)

theorem sl_info : (Try.prog.info? 38).map (fun i => (i.zero, i.size, i.bytes)) = some (some (.slice none 0 0), 1, 24) := by kernel_rfl

/-- what each word may hold, row by row, as the law collects it behind w4 -/
def Rows4 (B : Nat) (wr : World) (A : Abs) (mv : Value) (i : Nat) : Prop :=
  ∃ rows : List Value, wr.ownsRow B 38 1 mv i rows ∧ ∀ j, j < i → ∃ g c, rows[j]? = some (.slice (some ⟨g, 0, none⟩) (A.may j).length c) ∧ Words B wr (.slice (some ⟨g, 0, none⟩) (A.may j).length c) (A.may j)
def MayRel (w4 wr : World) (A : Abs) (mv : Value) (i : Nat) : Prop := Off (fun _ => False) w4 wr ∧ Rows4 w4.heap.size wr A mv i

theorem row_base_lt {w : World} {B : Nat} {e : TypeId} {n : Nat} {v : Value} {xs : List Value} (h : w.ownsRow B e 1 v n xs) {g : Nat} (hg : v.ownBlock = some g) : B ≤ g ∧ ∃ cur, w.heap[g]? = some (.cells cur e (0, 0)) := by
  rcases h.2 with ⟨e, _⟩ | ⟨g', cap, cur, e, hb, hh, _⟩
  · rw [e] at hg; simp [Value.ownBlock] at hg
  · rw [e] at hg
    simp only [Value.ownBlock, Option.some.injEq] at hg
    subst hg
    exact ⟨hb, cur, hh⟩

/-- rows stay where the blocks from B on stay -/
theorem rows_keep {B : Nat} {w w' : World} {A : Abs} {mv : Value} {i : Nat} (h : Rows4 B w A mv i) (hk : ∀ k, B ≤ k → k < w.heap.size → w'.heap[k]? = w.heap[k]?) : Rows4 B w' A mv i := by
  obtain ⟨rows, hrow, hj⟩ := h
  refine ⟨rows, row_keep hrow (fun g hg => ?_), fun j hlt => ?_⟩
  · obtain ⟨hb, cur, hh⟩ := row_base_lt hrow hg
    exact hk g hb (lt_of_some hh)
  · obtain ⟨g, c, e, hw⟩ := hj j hlt
    refine ⟨g, c, e, row_keep hw (fun g' hg => ?_)⟩
    obtain ⟨hb, cur, hh⟩ := row_base_lt hw hg
    exact hk g' hb (lt_of_some hh)

theorem rows_next {B : Nat} {w5 w6 : World} {A : Abs} {mv mv' : Value} {i g c : Nat} {cs : Array Value} (hw : Words B w5 (.slice (some ⟨g, 0, none⟩) (A.may i).length c) (A.may i))
    (rows : List Value) (hr : w5.ownsRow B 38 1 mv i rows) (hrr : ∀ j, j < i → ∃ g c, rows[j]? = some (.slice (some ⟨g, 0, none⟩) (A.may j).length c) ∧ Words B w5 (.slice (some ⟨g, 0, none⟩) (A.may j).length c) (A.may j))
    (hrow : w6.ownsRow B 38 1 mv' (i + 1) (rows ++ [.slice (some ⟨g, 0, none⟩) (A.may i).length c])) (hgr : (w5.alloc (.cells cs 38)).grownBy w6 mv.ownBlock) : Rows4 B w6 A mv' (i + 1) := by
  have hlen : rows.length = i := by have := hr.1; simpa using this
  have kw : ∀ {v : Value} {l : List Int}, Words B w5 v l → Words B w6 v l := fun {v l} hv => row_keep hv (fun g' hg => by
    obtain ⟨_, cur, hh⟩ := row_base_lt hv hg
    refine (hgr.block g' (by have := lt_of_some hh; simp; omega) (fun e => ?_)).trans (Below.heap_alloc _ _ _ (lt_of_some hh))
    obtain ⟨_, cur2, hh2⟩ := row_base_lt hr e.symm
    exact blk_ne hh hh2 (by decide) rfl)
  refine ⟨_, hrow, fun j hj => ?_⟩
  rcases Nat.lt_or_ge j i with hlt | hge
  · obtain ⟨g', c', e, hv⟩ := hrr j hlt
    exact ⟨g', c', by rw [List.getElem?_append_left (by omega)]; exact e, kw hv⟩
  · obtain rfl : j = i := by omega
    exact ⟨g, c, by rw [List.getElem?_append_right (by omega), hlen]; simp, kw hw⟩

theorem rows_cell {B : Nat} {w : World} {A : Abs} {gm n cap i j : Nat} (h : Rows4 B w A (.slice (some ⟨gm, 0, none⟩) n cap) i) (hj : j < i) :
    ∃ g c, w.cell? ⟨gm, j, none⟩ = some (.slice (some ⟨g, 0, none⟩) (A.may j).length c) ∧ ∀ q, (hq : q < (A.may j).length) → w.cell? ⟨g, q, none⟩ = some (.int .u64 (A.may j)[q]) := by
  obtain ⟨rows, hrow, hr⟩ := h
  obtain ⟨g, c, e, hw⟩ := hr j hj
  refine ⟨g, c, ?_, fun q hq => words_cell hw hq⟩
  rcases hrow.2 with ⟨e2, _⟩ | ⟨g', cap', cur, e2, _, hb, _, _, hsz, ht⟩
  · cases e2
  · injection e2 with e2
    injection e2 with e2
    injection e2 with e2
    subst e2
    rw [blk_cell hb]
    have := congrArg (·[j]?) ht
    simp only [Nat.mul_one] at this
    rw [List.getElem?_take, if_pos hj, e] at this
    rw [← Array.getElem?_toList]
    exact this

theorem may_pos {A : Abs} (h : A.Ok) (k : Nat) : 1 ≤ (A.may k).length ∧ (A.may k).length < 1000000000000 := by
  unfold Abs.may
  cases hg : pget A.pend k with
  | none => simp
  | some v =>
    have he := h.ent _ (pget_mem hg)
    have h1 := h.cnt
    have h2 := h.few
    simp only at he ⊢
    omega

set_option maxHeartbeats 3200000 in
set_option maxRecDepth 100000 in
theorem lasts_any {w : World} (n : Int) (hn0 : 0 ≤ n) (hn1 : n < 256) (A : Option Addr) (cn cc : Nat) (f : Nat → ActV) (hA : Acts w w.heap.size A cn f) (C : Option Addr) (m mc : Nat) (hC : Bytes w C m) :
    Calls Try.prog 3 #[.int .u8 n, .slice A cn cc, .slice C m mc] w fun r w' => r = .returned (.bool true) ∧ Below w.heap.size w w' := by
  have HL := Lib.hid (fun W => lives_any W)
  have HA := Lib.hid hA
  have HC := Lib.hid hC
  have hcn := hA.1
  have hmn := hC.1
  clear hA hC
  go_enter Try.func3, Try.ntmps3
  go_wp2_with fail
  refine (HL.out _).mono ?_
  rintro r w1 ⟨rfl, hb1⟩
  have H1 := Lib.hid hb1
  clear hb1
  go_wp2_with fail
  have hc := few_any A cn cc f (acts_below HA.out H1.out)
  refine hc.mono ?_
  clear hc
  rintro r w2 ⟨b, rfl, hb60, ho2⟩
  have H2 := Lib.hid (H1.out.trans ((off_below ho2).mono H1.out.size))
  clear ho2 H1
  cases b
  · clear hb60
    go_wp2_with fail
    refine (HL.out _).mono ?_
    rintro r w3 ⟨rfl, hb3⟩
    have H3 := Lib.hid hb3
    clear hb3
    go_wp2
    go_ret
    exact ⟨rfl, H2.out.trans (H3.out.mono H2.out.size)⟩
  · have h60 : cn ≤ 60 := hb60 rfl
    clear hb60
    by_cases h100 : 100 < m
    · go_wp2_with fail
      refine (HL.out _).mono ?_
      rintro r w3 ⟨rfl, hb3⟩
      have H3 := Lib.hid hb3
      clear hb3
      go_wp2
      go_ret
      exact ⟨rfl, H2.out.trans (H3.out.mono H2.out.size)⟩
    · have hd100 : decide (100 < (m : Int)) = false := by simp; omega
      obtain ⟨L, hL⟩ := Int.eq_ofNat_of_zero_le (Int.emod_nonneg n (show (101 : Int) ≠ 0 by decide))
      have hL101 : L < 101 := by have := Int.emod_lt_of_pos n (show (0 : Int) < 101 by decide); omega
      have HN := Lib.hid (ses_new (n % 101) L (by omega) w2)
      have HLL := Lib.hid hL
      clear hL
      go_wp2_with fail
      refine HN.out.mono ?_
      rintro r w3 ⟨rfl, h3⟩
      have H3 := Lib.hid h3
      clear h3
      go_wp2_with fail
      go_loopw [37] (fun i wr => ∃ (q : Nat) (A' : Abs), q ≤ cn ∧ i = .int .i64 (q : Int) ∧ Ses w2.heap.size w2 wr (w2.heap.size + 2) A' ∧ A'.steps ≤ q ∧ A'.words.length = L) (fun i _ => cn - (intOf i).toNat)
      case atStart => exact ⟨0, _, Nat.zero_le _, rfl, H3.out, Nat.le_refl _, by simp [Abs.fresh]⟩
      case round =>
        obtain ⟨q, A', hq, rfl, hses, hst, hwl⟩ := hrel
        by_cases hlt : q < cn
        · obtain ⟨b, o, rfl, hb, ha, hcn2⟩ := (acts_below HA.out (H2.out.trans (hses.below.mono H2.out.size))).2 q hlt
          have a0 := ha.c0
          have a1 := ha.c1
          have a2 := ha.c2
          have a3 := ha.c3
          have k0 := ha.k0
          have k1 := ha.k1
          have HS := Lib.hid hses
          clear hses ha
          by_cases hk6 : (f q).k % 8 < 6
          · go_wp2_with fail
            refine (ses_play (HS.out.off ((Off.refl _ _).alloc _)) (f q).k (f q).w (f q).x (f q).c (f q).n (f q).cap k0 k1 hk6 (by omega)).mono ?_
            rintro r w4 ⟨⟨bb, rfl⟩, A2, hs2, hg2, _⟩
            have HS2 := Lib.hid hs2
            have HG2 := Lib.hid hg2
            clear hs2 hg2
            go_wp2
            exact ⟨⟨q + 1, A2, by omega, by go_num, HS2.out, by have := HG2.out.2.1; omega, HG2.out.2.2.trans hwl⟩, by simp [intOf]; omega⟩
          · go_wp2
            exact ⟨⟨q + 1, A', by omega, by go_num, HS.out.off ((Off.refl _ _).alloc _), by omega, hwl⟩, by simp [intOf]; omega⟩
        · have HS := Lib.hid hses
          clear hses
          go_wp2_with fail
          have hc := ses_len HS.out
          rw [hwl] at hc
          refine hc.mono ?_
          clear hc
          rintro r w4 ⟨rfl, hw4⟩
          subst hw4
          obtain ⟨D, hrep, habs, hok, hb4, hf4, hz4⟩ := HS.out
          subst habs
          obtain ⟨w4, hw4⟩ : ∃ w4, w4 = wr := ⟨_, rfl⟩
          subst hw4
          have hfl : ∀ k, Foot (w2.heap.size + 2) D k → k < w4.heap.size := fun k hk => hrep.foot_lt hk
          have HR := Lib.hid hrep
          have HK := Lib.hid hok
          have HB4 := Lib.hid hb4
          have HF4 := Lib.hid hf4
          have HFL := Lib.hid hfl
          clear hrep hok hb4 hf4 hfl hz4
          go_wp2_with fail
          go_loopw [10, 52] (fun mv i wr => ∃ (q2 : Nat) (G : Option Addr) (gc : Nat), q2 ≤ L ∧ i = .int .i64 (q2 : Int) ∧ mv = .slice G q2 gc ∧ MayRel w4 wr D.abs (.slice G q2 gc) q2) (fun _ i _ => L - (intOf i).toNat)
          case atStart => exact ⟨0, none, 0, Nat.zero_le _, rfl, rfl, Off.refl _ _, [], ⟨by simp, .inl ⟨rfl, rfl⟩⟩, fun j hj => absurd hj (by omega)⟩
          case round =>
            obtain ⟨q2, G, gc, hq2, rfl, rfl, hmay⟩ := hrel
            by_cases hlt2 : q2 < L
            · obtain ⟨hoff, rows, hrow, hrr⟩ := hmay
              have hrep5 : Rep wr (w2.heap.size + 2) D := HR.out.keep (fun k hk => hoff.block k (HR.out.foot_lt hk) id)
              have hcm := may_any hrep5 HK.out q2 (by show q2 < D.abs.words.length; omega)
              have HOFF := Lib.hid hoff
              have HROW := Lib.hid hrow
              have HRR := Lib.hid hrr
              have hp := may_pos HK.out q2
              clear hoff hrow hrr hrep5
              go_wp2_with fail
              refine hcm.mono ?_
              clear hcm
              rintro r w6 ⟨v, rfl, hown, hoff6⟩
              obtain ⟨g, c, rfl⟩ := row_form hown (by omega)
              obtain ⟨i0, hi0, hz0, hz1, hz2⟩ := info_parts sl_info
              have hk6 : ∀ k, w4.heap.size ≤ k → k < wr.heap.size → w6.heap[k]? = wr.heap[k]? := fun k _ hk => hoff6.block k hk id
              have hrows6 : ∀ j, j < q2 → ∃ g c, rows[j]? = some (.slice (some ⟨g, 0, none⟩) (D.abs.may j).length c) ∧ Words w4.heap.size w6 (.slice (some ⟨g, 0, none⟩) (D.abs.may j).length c) (D.abs.may j) := fun j hj => by
                obtain ⟨g', c', e, hw⟩ := HRR.out j hj
                refine ⟨g', c', e, row_keep hw (fun g hg => ?_)⟩
                obtain ⟨hb, cur, hh⟩ := row_base_lt hw hg
                exact hk6 g hb (lt_of_some hh)
              have hrow6 : w6.ownsRow w4.heap.size 38 1 (.slice G q2 gc) q2 rows := row_keep HROW.out (fun g hg => by
                obtain ⟨hb, cur, hh⟩ := row_base_lt HROW.out hg
                exact hk6 g hb (lt_of_some hh))
              have HOWN := Lib.hid (hrow6.alloc (.cells #[.slice (some ⟨g, 0, none⟩) (D.abs.may q2).length c] 38))
              have HW6 := Lib.hid (row_base hown (HOFF.out.size))
              have HR6 := Lib.hid hrows6
              have HRW6 := Lib.hid hrow6
              have HK6 := Lib.hid hk6
              have HO6 := Lib.hid hoff6
              clear hown hrows6 hrow6 hk6 hoff6
              go_wp2_with (at_builtin; refine wpList_append_own_at _ rfl (.tmp 55) (.tmp 59) 36 rfl w4.heap.size 38 i0 (.slice none 0 0) 1 24 Try.underlying36 hi0 hz0 hz1 hz2 rfl (by decide) (.slice G q2 gc) q2 rows rfl HOWN.out ⟨w6.heap.size, 0, none⟩ 1 1 [.slice (some ⟨g, 0, none⟩) (D.abs.may q2).length c] rfl rfl (cell_one_new _ _ _) (by simp [Value.oneCell']) (by unfold maxLen; omega) (by omega) (by have := HOFF.out.size; have := HO6.out.size; simp; omega) ?_
                           intro mv' w7 hown7 hgr7 _ hloc7
                           obtain ⟨G', gc', rfl, hG'⟩ := row_slice hown7
                           have HO7 := Lib.hid hown7
                           have HG7 := Lib.hid hgr7
                           clear hown7 hgr7 hloc7 hG')
              refine ⟨⟨q2 + 1, G', gc', by omega, by go_num, rfl, ?_, rows_next HW6.out rows HRW6.out HR6.out HO7.out HG7.out⟩, by simp [intOf]; omega⟩
              refine ((HOFF.out.trans HO6.out (fun _ _ h => h)).alloc _).grown HG7.out (fun k hk hlt => ?_)
              have := (row_base_lt HRW6.out hk).1
              omega
            · have hq2L : q2 = L := by omega
              subst hq2L
              obtain ⟨hoff, hrows⟩ := hmay
              have hrep5 : Rep wr (w2.heap.size + 2) D := HR.out.keep (fun k hk => hoff.block k (HR.out.foot_lt hk) id)
              have hbel5 : Below w.heap.size w wr := (H2.out.trans (HB4.out.mono H2.out.size)).trans ((off_below hoff).mono (Nat.le_trans H2.out.size HB4.out.size))
              have hcr := crash_any hrep5 HK.out C m mc (bytes_below HC.out hbel5) (fun b o h0 e hx => by
                obtain ⟨b', o', c', e', hlt', _⟩ := HC.out.2 0 h0
                rw [e] at e'
                injection e' with e'
                injection e' with e'
                subst e'
                have := HF4.out b hx
                have := H2.out.size
                omega)
              have HROWS := Lib.hid hrows
              have HB5 := Lib.hid hbel5
              have HO5 := Lib.hid hoff
              clear hoff hrows hrep5 hbel5
              go_wp2_with fail
              refine hcr.mono ?_
              clear hcr
              rintro r w7 ⟨rfl, D', hres, hcd⟩
              have hrows7 := rows_keep (w' := w7) HROWS.out (fun k hk hlt => hres.off.block k hlt (fun hx => by have := HFL.out k hx; omega))
              have hbel7 : Below w.heap.size w w7 := HB5.out.trans (hres.off.below HB5.out.size (fun b hb => by have := HF4.out b hb; have := H2.out.size; omega))
              have hdl : D'.words.length = q2 := hcd.len.trans hwl
              have HROWS7 := Lib.hid hrows7
              have HB7 := Lib.hid hbel7
              have HREP7 := Lib.hid hres.rep
              have HCD := Lib.hid hcd
              have HDL := Lib.hid hdl
              clear hrows7 hbel7 hres hcd hdl
              go_wp2_with fail
              go_loopw [67] (fun i wr => ∃ q3 : Nat, q3 ≤ q2 ∧ i = .int .i64 (q3 : Int) ∧ Off (fun _ => False) w7 wr) (fun i _ => q2 - (intOf i).toNat)
              case atStart => exact ⟨0, Nat.zero_le _, rfl, Off.refl _ _⟩
              case round =>
                obtain ⟨q3, hq3, rfl, hoff7⟩ := hrel
                have hrep8 : Rep wr (w2.heap.size + 2) D' := HREP7.out.keep (fun k hk => hoff7.block k (HREP7.out.foot_lt hk) id)
                by_cases hlt3 : q3 < q2
                · have hrows8 := rows_keep (w' := wr) HROWS7.out (fun k _ hk => hoff7.block k hk id)
                  obtain ⟨gm, rfl⟩ : ∃ gm, G = some ⟨gm, 0, none⟩ := by
                    obtain ⟨rows, hrow, _⟩ := hrows8
                    obtain ⟨gm, c', e⟩ := row_form hrow (by omega)
                    injection e with e1
                    exact ⟨gm, e1⟩
                  obtain ⟨g, c, hcell, hcells⟩ := rows_cell hrows8 hlt3
                  have hkl : q3 < D'.words.length := by rw [HDL.out]; exact hlt3
                  have hmem : D'.words[q3] ∈ D.abs.may q3 := HCD.out.words q3 _ (List.getElem?_eq_getElem hkl)
                  have hld := load_yes hrep8 q3 hkl
                  obtain ⟨x, hx⟩ : ∃ x, x = D'.words[q3] := ⟨_, rfl⟩
                  rw [← hx] at hld hmem
                  obtain ⟨ms, hms⟩ : ∃ ms, ms = D.abs.may q3 := ⟨_, rfl⟩
                  have hmp := may_pos HK.out q3
                  rw [← hms] at hcell hcells hmem hmp
                  have HX := Lib.hid hx
                  have HMEM := Lib.hid hmem
                  have HCELLS := Lib.hid hcells
                  have HREP8 := Lib.hid hrep8
                  have HO7 := Lib.hid hoff7
                  clear hx hmem hcells hrep8 hoff7 hrows8 hms
                  go_wp2_with fail
                  refine hld.mono ?_
                  clear hld
                  rintro r w8 ⟨rfl, hw8⟩
                  subst hw8
                  go_wp2_with fail
                  obtain ⟨w8, hw8⟩ : ∃ w8, w8 = wr := ⟨_, rfl⟩
                  subst hw8
                  go_loopw [15, 77] (fun b i wr => ∃ j : Nat, j ≤ ms.length ∧ i = .int .i64 (j : Int) ∧ b = .bool (decide (x ∈ ms.take j)) ∧ wr = w8) (fun _ i _ => ms.length - (intOf i).toNat)
                  case atStart => exact ⟨0, Nat.zero_le _, rfl, by simp, rfl⟩
                  case round =>
                    obtain ⟨j, hj, rfl, rfl, rfl⟩ := hrel
                    by_cases hlt4 : j < ms.length
                    · have hy := HCELLS.out j hlt4
                      obtain ⟨y, hyy⟩ : ∃ y, y = ms[j] := ⟨_, rfl⟩
                      rw [← hyy] at hy
                      have htk : ms.take (j + 1) = ms.take j ++ [y] := by rw [List.take_add_one, List.getElem?_eq_getElem hlt4, hyy]; rfl
                      have HTK := Lib.hid htk
                      clear hyy htk
                      by_cases hin : x ∈ ms.take j
                      · have hdec := decide_eq_true hin
                        have HIN := Lib.hid hin
                        clear hin
                        go_wp2
                        exact ⟨⟨j + 1, by omega, by go_num, by rw [decide_eq_true (by rw [HTK.out]; exact List.mem_append_left _ HIN.out)], trivial⟩, by simp [intOf]; omega⟩
                      · have hdec := decide_eq_false hin
                        have HIN := Lib.hid hin
                        clear hin
                        by_cases hxy : x = y
                        · have hbq : (x == y) = true := by simp [hxy]
                          have HXY := Lib.hid hxy
                          clear hxy
                          go_wp2
                          exact ⟨⟨j + 1, by omega, by go_num, by rw [decide_eq_true (by rw [HTK.out, HXY.out]; simp)], trivial⟩, by simp [intOf]; omega⟩
                        · have hbq : (x == y) = false := by simp [hxy]
                          have HXY := Lib.hid hxy
                          clear hxy
                          go_wp2
                          exact ⟨⟨j + 1, by omega, by go_num, by rw [decide_eq_false (by rw [HTK.out]; simp only [List.mem_append, List.mem_singleton, not_or]; exact ⟨HIN.out, HXY.out⟩)], trivial⟩, by simp [intOf]; omega⟩
                    · have hjl : j = ms.length := by omega
                      have hdec : decide (x ∈ ms.take j) = true := decide_eq_true (by rw [hjl, List.take_length]; exact HMEM.out)
                      have hnk : q3 ∉ D'.ents.map Ent.key := by
                        rw [← keys_abs, HCD.out.pend]; simp
                      have hla := lasting_none HREP8.out q3 hkl hnk
                      rw [← HX.out] at hla
                      clear hjl hnk
                      go_wp2_with fail
                      refine hla.mono ?_
                      clear hla
                      rintro r w9 ⟨rfl, hoff9⟩
                      have hrep9 : Rep w9 (w2.heap.size + 2) D' := HREP8.out.keep (fun k hk => hoff9.block k (HREP8.out.foot_lt hk) id)
                      have hm9 := may_any hrep9 (crashed_ok HK.out HCD.out) q3 hkl
                      have HO9 := Lib.hid hoff9
                      clear hoff9 hrep9
                      go_wp2_with fail
                      refine hm9.mono ?_
                      clear hm9
                      rintro r w10 ⟨v, rfl, hown10, hoff10⟩
                      have hl1 : (D'.abs.may q3).length = 1 := by simp [Abs.may, HCD.out.pend, pget]
                      rw [hl1] at hown10
                      obtain ⟨g10, c10, rfl⟩ := row_form hown10 (by omega)
                      have HO10 := Lib.hid hoff10
                      clear hl1 hown10 hoff10
                      go_wp2
                      exact ⟨⟨q3 + 1, by omega, by go_num, (HO7.out.trans HO9.out (fun _ _ h => h)).trans HO10.out (fun _ _ h => h)⟩, by simp [intOf]; omega⟩
                · have hdn := down_any hrep8
                  have hdf : D'.down = false := by
                    have : D'.armed = false := HCD.out.armed
                    simp [Dev.down, this]
                  rw [hdf] at hdn
                  have HO7 := Lib.hid hoff7
                  have HDN := Lib.hid hdn
                  clear hdn hdf hoff7 hrep8
                  go_wp2_with (go_at_call 15; refine HDN.out.mono ?_; rintro r w8 ⟨rfl, rfl⟩)
                  go_ret
                  exact ⟨rfl, HB7.out.trans ((off_below HO7.out).mono HB7.out.size)⟩
end Pm
end Go.Proofs.Ytlcjnmoicjgaiaa
