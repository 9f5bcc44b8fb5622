/- Texts laid together: ClmTwice, ClmTwiceLaw. -/
import Derived.Test.YtilolepbfmcbgaaGreatDoorKr10
import Derived.Test.YtilolepbfmcbgaaGreatDoorKr5
import Derived.Test.YtilolepbfmcbgaaGreatDoorKr8
import Derived.Test.YtilolepbfmcbgaaGreatDoorKr7
import Derived.Test.YtilolepbfmcbgaaGreatDoorKa1
import Derived.Test.YtilolepbfmcbgaaGreatDoorKa2
import Derived.Test.YtilolepbfmcbgaaGreatDoorKa3
import Derived.Test.YtilolepbfmcbgaaGreatDoorKr1
import Derived.Test.YtilolepbfmcbgaaGreatDoorKr2
import Derived.Test.YtilolepbfmcbgaaGreatDoorKr3
import Derived.Test.YtilolepbfmcbgaaGreatDoorKr4
import Derived.Test.YtilolepbfmcbgaaGreatDoorKr6
import Derived.Test.YtilolepbfmcbgaaGreatDoorKr9
/- A volume of two files of a block each. -/
namespace Go.Proofs.YtilolepbfmcbgaaGreatDoor
open Go.RowKit Go.MapKept
namespace Clm
open Chn (Pt rd pat fw tot blk)
open Vol (rdw puts sto rawW rawW_len rdw_get rdw_len putw_get rdw_puts)

theorem get_far {W l : List Nat} {p j : Nat} (h : p + l.length ≤ W.length) (hd : j < p ∨ p + l.length ≤ j) : (puts W (sto p l))[j]?.getD 0 = W[j]?.getD 0 := by
  rw [putw_get W p l h, if_neg (by omega)]
theorem rdw_far {W l : List Nat} {p q k : Nat} (h : p + l.length ≤ W.length) (hd : q + k ≤ p ∨ p + l.length ≤ q) : rdw (puts W (sto p l)) q k = rdw W q k := by
  refine List.ext_getElem (by rw [rdw_len, rdw_len]) (fun i h1 h2 => ?_)
  rw [rdw_len] at h1
  rw [rdw_get, rdw_get, get_far h (by omega)]
theorem set_far {W : List Nat} {j i v : Nat} (h : i ≠ j) : (W.set j v)[i]?.getD 0 = W[i]?.getD 0 := by
  rw [List.getElem?_set_ne (by omega)]
theorem set_at {W : List Nat} {j v : Nat} (h : j < W.length) : (W.set j v)[j]?.getD 0 = v := by
  rw [List.getElem?_set_self h]
  rfl
theorem rdw_set {W : List Nat} {j v q k : Nat} (h : j < q ∨ q + k ≤ j) : rdw (W.set j v) q k = rdw W q k := by
  refine List.ext_getElem (by rw [rdw_len, rdw_len]) (fun i h1 h2 => ?_)
  rw [rdw_len] at h1
  rw [rdw_get, rdw_get, set_far (by omega)]
/-- the volume's words -/
structure Twd (W : List Nat) (z p x : Nat) : Prop where
  len : 44 ≤ W.length
  i0 : rdw W 16 8 = Ino.ln 1 1 z
  i1 : rdw W 24 8 = Ino.ln 1 p z
  i2 : rdw W 32 8 = Ino.ln 0 0 0
  s0 : W[40]?.getD 0 = Slo.wd 0 1 65535
  s1 : W[41]?.getD 0 = Slo.wd x 1 65535
theorem puts_length (W : List Nat) (p : Nat) (l : List Nat) : (puts W (sto p l)).length = W.length := Vol.puts_len _ _
theorem twd_made {W : List Nat} {z p : Nat} (hl : 44 ≤ W.length) (h0 : ∀ j, 32 ≤ j → j < 40 → W[j]?.getD 0 = 0) :
    Twd (((puts (puts W (sto 16 (Ino.ln 1 1 z))) (sto 24 (Ino.ln 1 p z))).set 40 (Slo.wd 0 1 65535)).set 41 (Slo.wd 0 1 65535)) z p 0 := by
  have e1 : (Ino.ln 1 1 z).length = 8 := Ino.ln_len 1 1 z
  have e2 : (Ino.ln 1 p z).length = 8 := Ino.ln_len 1 p z
  have l1 : (puts W (sto 16 (Ino.ln 1 1 z))).length = W.length := puts_length _ _ _
  have l2 : (puts (puts W (sto 16 (Ino.ln 1 1 z))) (sto 24 (Ino.ln 1 p z))).length = W.length := by rw [puts_length, l1]
  refine ⟨by rw [List.length_set, List.length_set, l2]; exact hl, ?_, ?_, ?_, ?_, ?_⟩
  · rw [rdw_set (by omega), rdw_set (by omega), rdw_far (by omega) (by omega)]
    have := rdw_puts W 16 (Ino.ln 1 1 z) (by omega)
    rwa [e1] at this
  · rw [rdw_set (by omega), rdw_set (by omega)]
    have := rdw_puts (puts W (sto 16 (Ino.ln 1 1 z))) 24 (Ino.ln 1 p z) (by omega)
    rwa [e2] at this
  · rw [rdw_set (by omega), rdw_set (by omega), rdw_far (by omega) (by omega), rdw_far (by omega) (by omega)]
    exact rdw_zero W 32 h0
  · rw [set_far (by omega), set_at (by omega)]
  · rw [set_at (by rw [List.length_set]; omega)]
theorem twd_turned {W : List Nat} {z p : Nat} (h : Twd W z p 0) : Twd ((puts W (sto 24 (Ino.ln 1 2 z))).set 41 (Slo.wd 1 1 65535)) z 2 1 := by
  have hl := h.len
  have e2 : (Ino.ln 1 2 z).length = 8 := Ino.ln_len 1 2 z
  have l1 : (puts W (sto 24 (Ino.ln 1 2 z))).length = W.length := puts_length _ _ _
  refine ⟨by rw [List.length_set, l1]; exact hl, ?_, ?_, ?_, ?_, ?_⟩
  · rw [rdw_set (by omega), rdw_far (by omega) (by omega)]
    exact h.i0
  · rw [rdw_set (by omega)]
    have := rdw_puts W 24 (Ino.ln 1 2 z) (by omega)
    rwa [e2] at this
  · rw [rdw_set (by omega), rdw_far (by omega) (by omega)]
    exact h.i2
  · rw [set_far (by omega), get_far (by omega) (by omega)]
    exact h.s0
  · rw [set_at (by omega)]
section
variable {W : List Nat} {z p x : Nat}
theorem ino_may (hz : 1 ≤ z ∧ z ≤ 64) {p : Nat} (hp : p = 1 ∨ p = 2) : Ino.may ((1 : Nat) : Int) ((p : Int) - 1) (z : Int) = true := by
  unfold Ino.may Ino.May
  refine decide_eq_true (.inr ⟨.inl rfl, by omega, by omega, ?_⟩)
  constructor <;> intro h <;> omega
theorem chain_one {f : Nat → Option (Nat × Nat × Nat)} {i x : Nat} (hf : f i = some (x, 1, 65535)) (hi : i < 5) (hx : x < 5) : rd (pat f 5) 5 (((i + 1 : Nat) : Int) - 1) = some [⟨i, x, 1, 65535⟩] := by
  refine Chn.rd_iff.2 ⟨?_, by simp⟩
  have e : (((i + 1 : Nat) : Int) - 1) = (i : Int) := by omega
  rw [e]
  exact ⟨by omega, Chn.pat_yes hf hi (by omega), rfl⟩
theorem need_one (hz : 1 ≤ z ∧ z ≤ 64) : 1 = need 64 z := (need_iff (by omega)).2 ⟨by omega, fun d hd => by omega⟩
theorem fw_zero (h : Twd W z p x) : fw W (16 + 3 * 8) 0 = some (0, 1, 65535) := by
  show Slo.dec (W[40]?.getD 0) = _
  rw [h.s0]
  exact Slo.dec_wd (by decide)
theorem fw_one (h : Twd W z p x) (hx : x = 0 ∨ x = 1) : fw W (16 + 3 * 8) 1 = some (x, 1, 65535) := by
  show Slo.dec (W[41]?.getD 0) = _
  rw [h.s1]
  rcases hx with rfl | rfl <;> exact Slo.dec_wd (by decide)
theorem gi_zero (h : Twd W z p x) (hz : 1 ≤ z ∧ z ≤ 64) : gi W 5 3 64 0 = some ⟨1, 1, z, [⟨0, 0, 1, 65535⟩]⟩ := by
  unfold gi
  rw [show 16 + 8 * 0 = 16 from rfl, h.i0, Ino.dec_ln (ino_may hz (.inl rfl))]
  exact one_yes (chain_one (i := 0) (fw_zero h) (by omega) (by omega)) (need_one hz)
theorem gi_one (h : Twd W z 1 x) (hz : 1 ≤ z ∧ z ≤ 64) : gi W 5 3 64 1 = some ⟨1, 1, z, [⟨0, 0, 1, 65535⟩]⟩ := by
  unfold gi
  rw [show 16 + 8 * 1 = 24 from rfl, h.i1, Ino.dec_ln (ino_may hz (.inl rfl))]
  exact one_yes (chain_one (i := 0) (fw_zero h) (by omega) (by omega)) (need_one hz)
theorem gi_two (h : Twd W z 2 x) (hz : 1 ≤ z ∧ z ≤ 64) (hx : x = 0 ∨ x = 1) : gi W 5 3 64 1 = some ⟨1, 2, z, [⟨1, x, 1, 65535⟩]⟩ := by
  unfold gi
  rw [show 16 + 8 * 1 = 24 from rfl, h.i1, Ino.dec_ln (ino_may hz (.inr rfl))]
  exact one_yes (chain_one (i := 1) (fw_one h hx) (by omega) (by omega)) (need_one hz)
theorem gi_last (h : Twd W z p x) : gi W 5 3 64 2 = some z0 := by
  unfold gi
  rw [show 16 + 8 * 2 = 32 from rfl, h.i2, Ino.dec_ln (by decide)]
  exact one_free _ _ _ (by omega)
theorem scn_first (h : Twd W z p x) (hz : 1 ≤ z ∧ z ≤ 64) : scn (gi W 5 3 64) 1 = some [⟨1, 1, z, [⟨0, 0, 1, 65535⟩]⟩] :=
  scn_next (L := []) rfl (gi_zero h hz) (by simp [sl, sls]) (by simp [bl, blk])
theorem scn_twice (h : Twd W z p 0) (hz : 1 ≤ z ∧ z ≤ 64) (hp : p = 1 ∨ p = 2) : scn (gi W 5 3 64) 3 = none := by
  refine scn_stop (scn_first h hz) ?_ (by omega)
  rcases hp with rfl | rfl
  · rw [gi_one h hz]
    exact add_not (by simp [sl, sls])
  · rw [gi_two h hz (.inl rfl)]
    exact add_not (by simp [bl, blk])
theorem scn_apart (h : Twd W z 2 1) (hz : 1 ≤ z ∧ z ≤ 64) : scn (gi W 5 3 64) 3 = some [⟨1, 1, z, [⟨0, 0, 1, 65535⟩]⟩, ⟨1, 2, z, [⟨1, 1, 1, 65535⟩]⟩, z0] := by
  have h2 := scn_next (scn_first h hz) (gi_two h hz (.inr rfl)) (by simp [sl, sls]) (by simp [bl, blk])
  exact scn_next h2 (gi_last h) (by simp [sl, sls, z0]) (by simp [bl, blk, z0])
end
end Clm
end Go.Proofs.YtilolepbfmcbgaaGreatDoor
/- ClaimTwice, walked. -/
namespace Go.Proofs.YtilolepbfmcbgaaGreatDoor
open Go.RowKit Go.MapKept
namespace Clm
open Chn (Pt rd pat fw tot blk)
open Vol (Vo Hb hb_new Kq Ov Pl gn gs dv rawW rawW_len rdw puts sto)

theorem stretch_any (w : World) (b : Int) : Calls Tryz.prog 30 #[.int .i64 b] w fun r w' => r = .returned (.agg #[.int .i64 b, .int .i64 1, .int .i64 (-1)]) ∧ Below w.heap.size w w' := by
  go_enter Tryz.func30, Tryz.ntmps30
  go_wp2
  refine bodyPost_ret (v := .agg #[.int .i64 b, .int .i64 1, .int .i64 (-1)]) ?_ rfl ⟨rfl, (Below.refl _ _).alloc (Nat.le_refl _) _⟩
  simp [results, Tryz.results30, go_sem]
set_option maxHeartbeats 4000000 in
set_option maxRecDepth 100000 in
theorem twice_law (w : World) (hT : Bm.Tab w) (x : Nat) (hx : x < 256) (b : Bool) :
    Calls Tryz.prog 6 #[.int .u8 (x : Int), .bool b] w fun r w' => r = .returned (.bool true) ∧ Below w.heap.size w w' := by
  have HL := Lib.hid (lives_any w hT)
  obtain ⟨sl', bm', bk', E, hpl⟩ := Vol.pl_any 4 2 0
  have HZ := Lib.hid (fun w => zero_any w)
  have HO := Lib.hid (fun w' => kopen_any w' 4 2 0 (by omega) (by omega) (by omega) none 0 (ws := []) (Pack.wds_nil w' none) hpl)
  have HPL := Lib.hid hpl
  clear hT hpl
  go_enter Tryz.func6, Tryz.ntmps6
  go_wp2_with fail
  refine HL.out.mono ?_
  rintro e w0 ⟨rfl, hb⟩
  have HB0 := Lib.hid hb
  clear hb HL
  go_wp2_with fail
  refine (HZ.out _).mono ?_
  rintro e w1 ⟨rfl, hb⟩
  have HB1 := Lib.hid (HB0.out.trans (hb.mono HB0.out.size))
  clear hb HZ HB0
  go_wp2_with fail
  refine (HO.out _).mono ?_
  rintro e w3 ⟨Q, vb, a, g, gc, rfl, hov⟩
  rw [show gn 4 = 5 from rfl, show gn 2 = 3 from rfl, show gs 0 = 64 from rfl] at hov ⊢
  obtain ⟨z, hz⟩ : ∃ z, z = 1 + x % 64 := ⟨_, rfl⟩
  have hzi : (1 : Int) + (x : Int) % 64 = (z : Int) := by omega
  have HOV := Lib.hid hov
  have HZZ := Lib.hid (show 1 ≤ z ∧ z ≤ 64 by omega)
  clear hov HO hz
  unfold dv
  cases b with
  | false =>
    go_wp2_with fail
    have hb5 := (((Below.refl w3.heap.size w3).alloc (Nat.le_refl _) (.cells #[.int .i64 5, .int .i64 3, .int .i64 64, .int .i64 16, .int .i64 (sl' : Int), .int .i64 (bm' : Int), .int .i64 (bk' : Int), .int .i64 (E : Int), .slice (some ⟨g, 0, none⟩) E gc] 30)).alloc (by simp) (.cells #[.int .i64 1, .int .i64 0, .int .i64 (z : Int)] 58)).alloc (by simp; omega) (.cells #[.int .i64 1, .int .i64 1, .int .i64 (z : Int)] 58)
    have hn5 := (hb_new (w3.alloc (.cells #[.int .i64 5, .int .i64 3, .int .i64 64, .int .i64 16, .int .i64 (sl' : Int), .int .i64 (bm' : Int), .int .i64 (bk' : Int), .int .i64 (E : Int), .slice (some ⟨g, 0, none⟩) E gc] 30)) #[.int .i64 1, .int .i64 0, .int .i64 (z : Int)] 58).keep ((Below.refl _ _).alloc (Nat.le_refl _) (.cells #[.int .i64 1, .int .i64 1, .int .i64 (z : Int)] 58))
    have hm5 := hb_new ((w3.alloc (.cells #[.int .i64 5, .int .i64 3, .int .i64 64, .int .i64 16, .int .i64 (sl' : Int), .int .i64 (bm' : Int), .int .i64 (bk' : Int), .int .i64 (E : Int), .slice (some ⟨g, 0, none⟩) E gc] 30)).alloc (.cells #[.int .i64 1, .int .i64 0, .int .i64 (z : Int)] 58)) #[.int .i64 1, .int .i64 1, .int .i64 (z : Int)] 58
    simp only [World.size_alloc] at hn5 hm5
    have HV5 := Lib.hid (HOV.out.vo.grow hb5)
    have HB5 := Lib.hid (HB1.out.trans ((HOV.out.below.trans (hb5.mono HOV.out.below.size)).mono HB1.out.size))
    have HN5 := Lib.hid hn5
    have HM5 := Lib.hid hm5
    have HQL := Lib.hid (show ∀ k, k < w.heap.size → Q k from fun k hk => HOV.out.ql k (Nat.lt_of_lt_of_le hk HB1.out.size))
    have HLN := Lib.hid (show 44 ≤ (rawW 5 3 64 E []).length by
      have := rawW_len (ws := []) HPL.out
      rw [show gn 4 = 5 from rfl, show gn 2 = 3 from rfl, show gs 0 = 64 from rfl] at this
      rw [this]
      have := HPL.out.at
      rw [show gn 4 = 5 from rfl, show gn 2 = 3 from rfl, show gs 0 = 64 from rfl] at this
      omega)
    have HS3 := Lib.hid (show w.heap.size ≤ w3.heap.size from Nat.le_trans HB1.out.size HOV.out.below.size)
    clear hb5 hn5 hm5 HOV HPL HB1
    generalize ((w3.alloc (.cells #[.int .i64 5, .int .i64 3, .int .i64 64, .int .i64 16, .int .i64 (sl' : Int), .int .i64 (bm' : Int), .int .i64 (bk' : Int), .int .i64 (E : Int), .slice (some ⟨g, 0, none⟩) E gc] 30)).alloc (.cells #[.int .i64 1, .int .i64 0, .int .i64 (z : Int)] 58)).alloc (.cells #[.int .i64 1, .int .i64 1, .int .i64 (z : Int)] 58) = w5 at *
    obtain ⟨R, hR⟩ : ∃ R : Nat → Prop, R = fun k => Q k ∨ (w3.heap.size ≤ k ∧ k < w5.heap.size) := ⟨_, rfl⟩
    rw [← hR] at HV5
    have HRN := Lib.hid (show R (w3.heap.size + 1) by rw [hR]; exact .inr ⟨Nat.le_succ _, HN5.out.lt⟩)
    have HRM := Lib.hid (show R (w3.heap.size + 1 + 1) by rw [hR]; exact .inr ⟨by omega, HM5.out.lt⟩)
    have HRW := Lib.hid (show ∀ k, k < w.heap.size → R k by rw [hR]; exact fun k hk => .inl (HQL.out k hk))
    have HMB := Lib.hid (show w.heap.size ≤ w3.heap.size + 1 + 1 by have := HS3.out; omega)
    have HNM := Lib.hid (show ¬ w3.heap.size + 1 = w3.heap.size + 1 + 1 by omega)
    clear hR HQL
    generalize w3.heap.size + 1 + 1 = mb at *
    generalize w3.heap.size + 1 = nb at *
    have h1 := Vol.setInode_yes HV5.out 0 1 1 z 0 (by omega) rfl (ino_may HZZ.out (.inl rfl)) (by omega)
    have HS := Lib.hid (show Calls Tryz.prog 28 #[.pointer (some ⟨vb, 0, none⟩), .int .i64 0, .agg #[.int .i64 1, .int .i64 0, .int .i64 (z : Int)]] w5 _ from h1)
    clear h1
    refine HS.out.mono ?_
    rintro e w6 ⟨rfl, hv, hk⟩
    have HV6 := Lib.hid hv
    have HN6 := Lib.hid (HN5.out.kq hk HRN.out)
    have HM6 := Lib.hid (HM5.out.kq hk HRM.out)
    have HB6 := Lib.hid (HB5.out.trans (hk.below HB5.out.size HRW.out))
    clear hv hk HS HN5 HM5 HB5 HV5
    have m0 := HM6.out.cell 0
    have m1 := HM6.out.cell 1
    have m2 := HM6.out.cell 2
    have ml := HM6.out.lt
    go_wp2_with fail
    clear m0 m1 m2 ml
    have h1 := Vol.setInode_yes HV6.out 1 1 2 z 1 (by omega) rfl (ino_may HZZ.out (.inr rfl)) (by have := Vol.lc_le (16 + 8 * 0) 8; omega)
    have HS := Lib.hid (show Calls Tryz.prog 28 #[.pointer (some ⟨vb, 0, none⟩), .int .i64 1, .agg #[.int .i64 1, .int .i64 1, .int .i64 (z : Int)]] w6 _ from h1)
    clear h1
    refine HS.out.mono ?_
    rintro e w7 ⟨rfl, hv, hk⟩
    have HV7 := Lib.hid hv
    have HM7 := Lib.hid (HM6.out.kq hk HRM.out)
    have HB7 := Lib.hid (HB6.out.trans (hk.below HB6.out.size HRW.out))
    clear hv hk HS HN6 HM6 HB6 HV6
    go_wp2_with fail
    refine (stretch_any _ 0).mono ?_
    rintro e w8 ⟨rfl, hb⟩
    have HV8 := Lib.hid (HV7.out.keep hb)
    have HM8 := Lib.hid (HM7.out.keep hb)
    have HB8 := Lib.hid (HB7.out.trans (hb.mono HB7.out.size))
    clear hb HV7 HM7 HB7
    go_wp2_with fail
    have h1 := Vol.setSlot_yes HV8.out 0 0 1 65535 (-1) (by omega) rfl (by decide) (by have := Vol.lc_le (16 + 8 * 0) 8; have := Vol.lc_le (16 + 8 * 1) 8; omega)
    have HS := Lib.hid (show Calls Tryz.prog 29 #[.pointer (some ⟨vb, 0, none⟩), .int .i64 0, .agg #[.int .i64 0, .int .i64 1, .int .i64 (-1)]] w8 _ from h1)
    clear h1
    refine HS.out.mono ?_
    rintro e w9 ⟨rfl, hv, hk⟩
    have HV9 := Lib.hid hv
    have HM9 := Lib.hid (HM8.out.kq hk HRM.out)
    have HB9 := Lib.hid (HB8.out.trans (hk.below HB8.out.size HRW.out))
    clear hv hk HS HM8 HB8 HV8
    go_wp2_with fail
    refine (stretch_any _ 0).mono ?_
    rintro e w10 ⟨rfl, hb⟩
    have HV10 := Lib.hid (HV9.out.keep hb)
    have HM10 := Lib.hid (HM9.out.keep hb)
    have HB10 := Lib.hid (HB9.out.trans (hb.mono HB9.out.size))
    clear hb HV9 HM9 HB9
    go_wp2_with fail
    have h1 := Vol.setSlot_yes HV10.out 1 0 1 65535 (-1) (by omega) rfl (by decide) (by have := Vol.lc_le (16 + 8 * 0) 8; have := Vol.lc_le (16 + 8 * 1) 8; omega)
    have HS := Lib.hid (show Calls Tryz.prog 29 #[.pointer (some ⟨vb, 0, none⟩), .int .i64 1, .agg #[.int .i64 0, .int .i64 1, .int .i64 (-1)]] w10 _ from h1)
    clear h1
    refine HS.out.mono ?_
    rintro e w11 ⟨rfl, hv, hk⟩
    have HTW := Lib.hid (twd_made (z := z) (p := 2) HLN.out (fun j hj _ => raw0 5 3 64 E j (by omega)))
    have HV11 := Lib.hid (show Vo R w11 vb a 5 3 64 (((puts (puts (rawW 5 3 64 E []) (sto 16 (Ino.ln 1 1 z))) (sto 24 (Ino.ln 1 2 z))).set 40 (Slo.wd 0 1 65535)).set 41 (Slo.wd 0 1 65535)) _ _ from hv)
    have HM11 := Lib.hid (HM10.out.kq hk HRM.out)
    have HB11 := Lib.hid (HB10.out.trans (hk.below HB10.out.size HRW.out))
    clear hv hk HS HM10 HB10 HV10
    generalize (((puts (puts (rawW 5 3 64 E []) (sto 16 (Ino.ln 1 1 z))) (sto 24 (Ino.ln 1 2 z))).set 40 (Slo.wd 0 1 65535)).set 41 (Slo.wd 0 1 65535)) = W at *
    go_wp2_with fail
    refine (scan_any HV11.out).mono ?_
    intro e w12 k12
    unfold ScTo at k12
    rw [scn_twice HTW.out HZZ.out (.inr rfl)] at k12
    rcases k12 with ⟨_, rfl, hb⟩ | ⟨_, _, _, _, _, h1, _⟩
    case inr => cases h1
    have hlc := Vol.lc_le (16 + 8 * 0) 8
    have hlc2 := Vol.lc_le (16 + 8 * 1) 8
    have HV12 := Lib.hid (HV11.out.keep hb)
    have HM12 := Lib.hid (HM11.out.keep hb)
    have HB12 := Lib.hid (HB11.out.trans (hb.mono HB11.out.size))
    clear hb HV11 HM11 HB11
    have m0 := HM12.out.cell 0
    have m1 := HM12.out.cell 1
    have m2 := HM12.out.cell 2
    have mf1 := HM12.out.frozen 1
    have ml := HM12.out.lt
    have HVB := Lib.hid (Pm.blk_ne HV12.out.vol HM12.out (by decide))
    go_wp2_with fail
    clear m0 m1 m2 mf1 ml
    have HV13 := Lib.hid (Vol.Vo.put HV12.out (p := ⟨mb, 1, none⟩) HRM.out HVB.out (.int .i64 1))
    have HB13 := Lib.hid (HB12.out.setCell (p := ⟨mb, 1, none⟩) HMB.out (.int .i64 1))
    clear HV12 HB12 HM12
    generalize w12.setCell ⟨mb, 1, none⟩ (.int .i64 1) = w13 at *
    have h1 := Vol.setInode_yes HV13.out 1 1 2 z 1 (by omega) rfl (ino_may HZZ.out (.inr rfl)) (by omega)
    have HS := Lib.hid (show Calls Tryz.prog 28 #[.pointer (some ⟨vb, 0, none⟩), .int .i64 1, .agg #[.int .i64 1, .int .i64 1, .int .i64 (z : Int)]] w13 _ from h1)
    clear h1
    refine HS.out.mono ?_
    rintro e w14 ⟨rfl, hv, hk⟩
    have HV14 := Lib.hid hv
    have HB14 := Lib.hid (HB13.out.trans (hk.below HB13.out.size HRW.out))
    clear hv hk HS HB13 HV13
    go_wp2_with fail
    refine (stretch_any _ 1).mono ?_
    rintro e w15 ⟨rfl, hb⟩
    have HV15 := Lib.hid (HV14.out.keep hb)
    have HB15 := Lib.hid (HB14.out.trans (hb.mono HB14.out.size))
    clear hb HV14 HB14
    go_wp2_with fail
    have h1 := Vol.setSlot_yes HV15.out 1 1 1 65535 (-1) (by omega) rfl (by decide) (by omega)
    have HS := Lib.hid (show Calls Tryz.prog 29 #[.pointer (some ⟨vb, 0, none⟩), .int .i64 1, .agg #[.int .i64 1, .int .i64 1, .int .i64 (-1)]] w15 _ from h1)
    clear h1
    refine HS.out.mono ?_
    rintro e w16 ⟨rfl, hv, hk⟩
    have HTV := Lib.hid (twd_turned HTW.out)
    have HV16 := Lib.hid (show Vo R w16 vb a 5 3 64 ((puts W (sto 24 (Ino.ln 1 2 z))).set 41 (Slo.wd 1 1 65535)) _ _ from hv)
    have HB16 := Lib.hid (HB15.out.trans (hk.below HB15.out.size HRW.out))
    clear hv hk HS HB15 HV15
    generalize ((puts W (sto 24 (Ino.ln 1 2 z))).set 41 (Slo.wd 1 1 65535)) = W2 at *
    go_wp2_with fail
    refine (scan_any HV16.out).mono ?_
    intro e w17 k17
    unfold ScTo at k17
    rw [scn_apart HTV.out HZZ.out] at k17
    rcases k17 with ⟨h1, _⟩ | ⟨L, P, N, C, X, h1, rfl, hq, _, hb⟩
    · cases h1
    injection h1 with h1
    have e2 : bl L = [0, 1] := by
      rw [← h1]
      simp [bl, blk, z0]
    have HQ17 := Lib.hid hq
    have HB17 := Lib.hid (HB16.out.trans (hb.mono HB16.out.size))
    have HE2 := Lib.hid e2
    clear hq hb h1 e2 HV16 HB16
    go_wp2_with fail
    refine (cblocks_any HQ17.out).mono ?_
    rintro e w18 ⟨p8, q8, C8, rfl, _, _, hm8, hb⟩
    rw [HE2.out] at hm8
    have HB18 := Lib.hid (HB17.out.trans (hb.mono HB17.out.size))
    have hct := Bm.count_any hm8
    rw [cnt_ins _ _ (by decide) (by decide)] at hct
    clear hb
    go_wp2_with fail
    refine hct.mono ?_
    rintro e w19 ⟨rfl, rfl⟩
    go_wp2
    go_ret
    exact ⟨rfl, HB18.out⟩
  | true =>
    go_wp2_with fail
    have hb5 := (((Below.refl w3.heap.size w3).alloc (Nat.le_refl _) (.cells #[.int .i64 5, .int .i64 3, .int .i64 64, .int .i64 16, .int .i64 (sl' : Int), .int .i64 (bm' : Int), .int .i64 (bk' : Int), .int .i64 (E : Int), .slice (some ⟨g, 0, none⟩) E gc] 30)).alloc (by simp) (.cells #[.int .i64 1, .int .i64 0, .int .i64 (z : Int)] 58)).alloc (by simp; omega) (.cells #[.int .i64 1, .int .i64 0, .int .i64 (z : Int)] 58)
    have hn5 := (hb_new (w3.alloc (.cells #[.int .i64 5, .int .i64 3, .int .i64 64, .int .i64 16, .int .i64 (sl' : Int), .int .i64 (bm' : Int), .int .i64 (bk' : Int), .int .i64 (E : Int), .slice (some ⟨g, 0, none⟩) E gc] 30)) #[.int .i64 1, .int .i64 0, .int .i64 (z : Int)] 58).keep ((Below.refl _ _).alloc (Nat.le_refl _) (.cells #[.int .i64 1, .int .i64 0, .int .i64 (z : Int)] 58))
    have hm5 := hb_new ((w3.alloc (.cells #[.int .i64 5, .int .i64 3, .int .i64 64, .int .i64 16, .int .i64 (sl' : Int), .int .i64 (bm' : Int), .int .i64 (bk' : Int), .int .i64 (E : Int), .slice (some ⟨g, 0, none⟩) E gc] 30)).alloc (.cells #[.int .i64 1, .int .i64 0, .int .i64 (z : Int)] 58)) #[.int .i64 1, .int .i64 0, .int .i64 (z : Int)] 58
    simp only [World.size_alloc] at hn5 hm5
    have HV5 := Lib.hid (HOV.out.vo.grow hb5)
    have HB5 := Lib.hid (HB1.out.trans ((HOV.out.below.trans (hb5.mono HOV.out.below.size)).mono HB1.out.size))
    have HN5 := Lib.hid hn5
    have HM5 := Lib.hid hm5
    have HQL := Lib.hid (show ∀ k, k < w.heap.size → Q k from fun k hk => HOV.out.ql k (Nat.lt_of_lt_of_le hk HB1.out.size))
    have HLN := Lib.hid (show 44 ≤ (rawW 5 3 64 E []).length by
      have := rawW_len (ws := []) HPL.out
      rw [show gn 4 = 5 from rfl, show gn 2 = 3 from rfl, show gs 0 = 64 from rfl] at this
      rw [this]
      have := HPL.out.at
      rw [show gn 4 = 5 from rfl, show gn 2 = 3 from rfl, show gs 0 = 64 from rfl] at this
      omega)
    have HS3 := Lib.hid (show w.heap.size ≤ w3.heap.size from Nat.le_trans HB1.out.size HOV.out.below.size)
    clear hb5 hn5 hm5 HOV HPL HB1
    generalize ((w3.alloc (.cells #[.int .i64 5, .int .i64 3, .int .i64 64, .int .i64 16, .int .i64 (sl' : Int), .int .i64 (bm' : Int), .int .i64 (bk' : Int), .int .i64 (E : Int), .slice (some ⟨g, 0, none⟩) E gc] 30)).alloc (.cells #[.int .i64 1, .int .i64 0, .int .i64 (z : Int)] 58)).alloc (.cells #[.int .i64 1, .int .i64 0, .int .i64 (z : Int)] 58) = w5 at *
    obtain ⟨R, hR⟩ : ∃ R : Nat → Prop, R = fun k => Q k ∨ (w3.heap.size ≤ k ∧ k < w5.heap.size) := ⟨_, rfl⟩
    rw [← hR] at HV5
    have HRN := Lib.hid (show R (w3.heap.size + 1) by rw [hR]; exact .inr ⟨Nat.le_succ _, HN5.out.lt⟩)
    have HRM := Lib.hid (show R (w3.heap.size + 1 + 1) by rw [hR]; exact .inr ⟨by omega, HM5.out.lt⟩)
    have HRW := Lib.hid (show ∀ k, k < w.heap.size → R k by rw [hR]; exact fun k hk => .inl (HQL.out k hk))
    have HMB := Lib.hid (show w.heap.size ≤ w3.heap.size + 1 + 1 by have := HS3.out; omega)
    have HNM := Lib.hid (show ¬ w3.heap.size + 1 = w3.heap.size + 1 + 1 by omega)
    clear hR HQL
    generalize w3.heap.size + 1 + 1 = mb at *
    generalize w3.heap.size + 1 = nb at *
    have h1 := Vol.setInode_yes HV5.out 0 1 1 z 0 (by omega) rfl (ino_may HZZ.out (.inl rfl)) (by omega)
    have HS := Lib.hid (show Calls Tryz.prog 28 #[.pointer (some ⟨vb, 0, none⟩), .int .i64 0, .agg #[.int .i64 1, .int .i64 0, .int .i64 (z : Int)]] w5 _ from h1)
    clear h1
    refine HS.out.mono ?_
    rintro e w6 ⟨rfl, hv, hk⟩
    have HV6 := Lib.hid hv
    have HN6 := Lib.hid (HN5.out.kq hk HRN.out)
    have HM6 := Lib.hid (HM5.out.kq hk HRM.out)
    have HB6 := Lib.hid (HB5.out.trans (hk.below HB5.out.size HRW.out))
    clear hv hk HS HN5 HM5 HB5 HV5
    have m0 := HM6.out.cell 0
    have m1 := HM6.out.cell 1
    have m2 := HM6.out.cell 2
    have ml := HM6.out.lt
    go_wp2_with fail
    clear m0 m1 m2 ml
    have h1 := Vol.setInode_yes HV6.out 1 1 1 z 0 (by omega) rfl (ino_may HZZ.out (.inl rfl)) (by have := Vol.lc_le (16 + 8 * 0) 8; omega)
    have HS := Lib.hid (show Calls Tryz.prog 28 #[.pointer (some ⟨vb, 0, none⟩), .int .i64 1, .agg #[.int .i64 1, .int .i64 0, .int .i64 (z : Int)]] w6 _ from h1)
    clear h1
    refine HS.out.mono ?_
    rintro e w7 ⟨rfl, hv, hk⟩
    have HV7 := Lib.hid hv
    have HM7 := Lib.hid (HM6.out.kq hk HRM.out)
    have HB7 := Lib.hid (HB6.out.trans (hk.below HB6.out.size HRW.out))
    clear hv hk HS HN6 HM6 HB6 HV6
    go_wp2_with fail
    refine (stretch_any _ 0).mono ?_
    rintro e w8 ⟨rfl, hb⟩
    have HV8 := Lib.hid (HV7.out.keep hb)
    have HM8 := Lib.hid (HM7.out.keep hb)
    have HB8 := Lib.hid (HB7.out.trans (hb.mono HB7.out.size))
    clear hb HV7 HM7 HB7
    go_wp2_with fail
    have h1 := Vol.setSlot_yes HV8.out 0 0 1 65535 (-1) (by omega) rfl (by decide) (by have := Vol.lc_le (16 + 8 * 0) 8; have := Vol.lc_le (16 + 8 * 1) 8; omega)
    have HS := Lib.hid (show Calls Tryz.prog 29 #[.pointer (some ⟨vb, 0, none⟩), .int .i64 0, .agg #[.int .i64 0, .int .i64 1, .int .i64 (-1)]] w8 _ from h1)
    clear h1
    refine HS.out.mono ?_
    rintro e w9 ⟨rfl, hv, hk⟩
    have HV9 := Lib.hid hv
    have HM9 := Lib.hid (HM8.out.kq hk HRM.out)
    have HB9 := Lib.hid (HB8.out.trans (hk.below HB8.out.size HRW.out))
    clear hv hk HS HM8 HB8 HV8
    go_wp2_with fail
    refine (stretch_any _ 0).mono ?_
    rintro e w10 ⟨rfl, hb⟩
    have HV10 := Lib.hid (HV9.out.keep hb)
    have HM10 := Lib.hid (HM9.out.keep hb)
    have HB10 := Lib.hid (HB9.out.trans (hb.mono HB9.out.size))
    clear hb HV9 HM9 HB9
    go_wp2_with fail
    have h1 := Vol.setSlot_yes HV10.out 1 0 1 65535 (-1) (by omega) rfl (by decide) (by have := Vol.lc_le (16 + 8 * 0) 8; have := Vol.lc_le (16 + 8 * 1) 8; omega)
    have HS := Lib.hid (show Calls Tryz.prog 29 #[.pointer (some ⟨vb, 0, none⟩), .int .i64 1, .agg #[.int .i64 0, .int .i64 1, .int .i64 (-1)]] w10 _ from h1)
    clear h1
    refine HS.out.mono ?_
    rintro e w11 ⟨rfl, hv, hk⟩
    have HTW := Lib.hid (twd_made (z := z) (p := 1) HLN.out (fun j hj _ => raw0 5 3 64 E j (by omega)))
    have HV11 := Lib.hid (show Vo R w11 vb a 5 3 64 (((puts (puts (rawW 5 3 64 E []) (sto 16 (Ino.ln 1 1 z))) (sto 24 (Ino.ln 1 1 z))).set 40 (Slo.wd 0 1 65535)).set 41 (Slo.wd 0 1 65535)) _ _ from hv)
    have HM11 := Lib.hid (HM10.out.kq hk HRM.out)
    have HB11 := Lib.hid (HB10.out.trans (hk.below HB10.out.size HRW.out))
    clear hv hk HS HM10 HB10 HV10
    generalize (((puts (puts (rawW 5 3 64 E []) (sto 16 (Ino.ln 1 1 z))) (sto 24 (Ino.ln 1 1 z))).set 40 (Slo.wd 0 1 65535)).set 41 (Slo.wd 0 1 65535)) = W at *
    go_wp2_with fail
    refine (scan_any HV11.out).mono ?_
    intro e w12 k12
    unfold ScTo at k12
    rw [scn_twice HTW.out HZZ.out (.inl rfl)] at k12
    rcases k12 with ⟨_, rfl, hb⟩ | ⟨_, _, _, _, _, h1, _⟩
    case inr => cases h1
    have hlc := Vol.lc_le (16 + 8 * 0) 8
    have hlc2 := Vol.lc_le (16 + 8 * 1) 8
    have HV12 := Lib.hid (HV11.out.keep hb)
    have HM12 := Lib.hid (HM11.out.keep hb)
    have HB12 := Lib.hid (HB11.out.trans (hb.mono HB11.out.size))
    clear hb HV11 HM11 HB11
    have m0 := HM12.out.cell 0
    have m1 := HM12.out.cell 1
    have m2 := HM12.out.cell 2
    have mf1 := HM12.out.frozen 1
    have ml := HM12.out.lt
    have HVB := Lib.hid (Pm.blk_ne HV12.out.vol HM12.out (by decide))
    go_wp2_with fail
    clear m0 m1 m2 mf1 ml
    have HV13 := Lib.hid (Vol.Vo.put HV12.out (p := ⟨mb, 1, none⟩) HRM.out HVB.out (.int .i64 1))
    have HB13 := Lib.hid (HB12.out.setCell (p := ⟨mb, 1, none⟩) HMB.out (.int .i64 1))
    clear HV12 HB12 HM12
    generalize w12.setCell ⟨mb, 1, none⟩ (.int .i64 1) = w13 at *
    have h1 := Vol.setInode_yes HV13.out 1 1 2 z 1 (by omega) rfl (ino_may HZZ.out (.inr rfl)) (by omega)
    have HS := Lib.hid (show Calls Tryz.prog 28 #[.pointer (some ⟨vb, 0, none⟩), .int .i64 1, .agg #[.int .i64 1, .int .i64 1, .int .i64 (z : Int)]] w13 _ from h1)
    clear h1
    refine HS.out.mono ?_
    rintro e w14 ⟨rfl, hv, hk⟩
    have HV14 := Lib.hid hv
    have HB14 := Lib.hid (HB13.out.trans (hk.below HB13.out.size HRW.out))
    clear hv hk HS HB13 HV13
    go_wp2_with fail
    refine (stretch_any _ 1).mono ?_
    rintro e w15 ⟨rfl, hb⟩
    have HV15 := Lib.hid (HV14.out.keep hb)
    have HB15 := Lib.hid (HB14.out.trans (hb.mono HB14.out.size))
    clear hb HV14 HB14
    go_wp2_with fail
    have h1 := Vol.setSlot_yes HV15.out 1 1 1 65535 (-1) (by omega) rfl (by decide) (by omega)
    have HS := Lib.hid (show Calls Tryz.prog 29 #[.pointer (some ⟨vb, 0, none⟩), .int .i64 1, .agg #[.int .i64 1, .int .i64 1, .int .i64 (-1)]] w15 _ from h1)
    clear h1
    refine HS.out.mono ?_
    rintro e w16 ⟨rfl, hv, hk⟩
    have HTV := Lib.hid (twd_turned HTW.out)
    have HV16 := Lib.hid (show Vo R w16 vb a 5 3 64 ((puts W (sto 24 (Ino.ln 1 2 z))).set 41 (Slo.wd 1 1 65535)) _ _ from hv)
    have HB16 := Lib.hid (HB15.out.trans (hk.below HB15.out.size HRW.out))
    clear hv hk HS HB15 HV15
    generalize ((puts W (sto 24 (Ino.ln 1 2 z))).set 41 (Slo.wd 1 1 65535)) = W2 at *
    go_wp2_with fail
    refine (scan_any HV16.out).mono ?_
    intro e w17 k17
    unfold ScTo at k17
    rw [scn_apart HTV.out HZZ.out] at k17
    rcases k17 with ⟨h1, _⟩ | ⟨L, P, N, C, X, h1, rfl, hq, _, hb⟩
    · cases h1
    injection h1 with h1
    have e2 : bl L = [0, 1] := by
      rw [← h1]
      simp [bl, blk, z0]
    have HQ17 := Lib.hid hq
    have HB17 := Lib.hid (HB16.out.trans (hb.mono HB16.out.size))
    have HE2 := Lib.hid e2
    clear hq hb h1 e2 HV16 HB16
    go_wp2_with fail
    refine (cblocks_any HQ17.out).mono ?_
    rintro e w18 ⟨p8, q8, C8, rfl, _, _, hm8, hb⟩
    rw [HE2.out] at hm8
    have HB18 := Lib.hid (HB17.out.trans (hb.mono HB17.out.size))
    have hct := Bm.count_any hm8
    rw [cnt_ins _ _ (by decide) (by decide)] at hct
    clear hb
    go_wp2_with fail
    refine hct.mono ?_
    rintro e w19 ⟨rfl, rfl⟩
    go_wp2
    go_ret
    exact ⟨rfl, HB18.out⟩
end Clm
end Go.Proofs.YtilolepbfmcbgaaGreatDoor
