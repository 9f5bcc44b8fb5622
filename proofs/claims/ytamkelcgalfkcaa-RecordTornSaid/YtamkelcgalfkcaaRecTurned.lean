/- A line one of whose bits is turned is torn; RecordTurned, walked. -/
import Derived.Test.YtamkelcgalfkcaaRecLives
namespace Go.Proofs.Ytamkelcgalfkcaa
open Go.RowKit Go.MapKept
namespace Rec
open Lin

theorem trn_none {s f t c : Nat} (h : may s f t c = true) {j i : Nat} (hj : j < 8) (hi : i < 64) : dec (trn (ln s f t c) j i) = none := by
  obtain ⟨h1, h2, h3, h4, h5⟩ := may_lt h
  refine dec_none (fun s' f' t' c' h' e => ?_)
  have ho : ∀ k, k ≠ j → (ln s f t c)[k]?.getD 0 = (ln s' f' t' c')[k]?.getD 0 := fun k hk => by rw [← e, trn_other hk]
  have hj' : (ln s f t c)[j]?.getD 0 ^^^ 2 ^ i = (ln s' f' t' c')[j]?.getD 0 := by rw [← e, trn_self hj]
  have hfu := front_u64 (s := s) (f := f) (t := t) (c := c) (by omega) (by omega) (by omega) (by omega)
  have : j = 0 ∨ j = 1 ∨ j = 7 ∨ (j = 2 ∨ j = 3 ∨ j = 4 ∨ j = 5 ∨ j = 6) := by omega
  rcases this with rfl | rfl | rfl | hr
  · have e1 : c = c' := ho 1 (by omega)
    have e7 : sum s f t c = sum s' f' t' c' := ho 7 (by omega)
    have e0 : nums s f t ^^^ 2 ^ i = nums s' f' t' := hj'
    refine Crc.line_told32 hfu (j := 0) (t := i) (by rw [front_len]; omega) hi ?_
    have e2 : (front s f t c).set 0 ((front s f t c)[0]?.getD 0 ^^^ 2 ^ i) = front s' f' t' c' := by
      show [nums s f t ^^^ 2 ^ i, c, 0, 0, 0, 0, 0] = _
      rw [e0, e1]
      rfl
    rw [e2]
    exact e7.symm
  · have e0 : nums s f t = nums s' f' t' := ho 0 (by omega)
    have e7 : sum s f t c = sum s' f' t' c' := ho 7 (by omega)
    have e1 : c ^^^ 2 ^ i = c' := hj'
    refine Crc.line_told32 hfu (j := 1) (t := i) (by rw [front_len]; omega) hi ?_
    have e2 : (front s f t c).set 1 ((front s f t c)[1]?.getD 0 ^^^ 2 ^ i) = front s' f' t' c' := by
      show [nums s f t, c ^^^ 2 ^ i, 0, 0, 0, 0, 0] = _
      rw [e0, e1]
      rfl
    rw [e2]
    exact e7.symm
  · have e0 : nums s f t = nums s' f' t' := ho 0 (by omega)
    have e1 : c = c' := ho 1 (by omega)
    have e7 : sum s f t c ^^^ 2 ^ i = sum s' f' t' c' := hj'
    have e2 : sum s f t c = sum s' f' t' c' := by
      unfold sum front
      rw [e0, e1]
    exact xor_ne _ _ (e7.trans e2.symm)
  · refine xor_ne ((ln s f t c)[j]?.getD 0) i (hj'.trans ?_)
    rcases hr with rfl | rfl | rfl | rfl | rfl <;> rfl

theorem trn_zero {s f t c : Nat} (h : may s f t c = true) {j i : Nat} : trn (ln s f t c) j i ≠ zero := by
  obtain ⟨h1, h2, h3, h4, h5⟩ := may_lt h
  intro e
  by_cases h0 : j = 0
  · have := trn_other (l := ln s f t c) (j := j) (t := i) (k := 1) (by omega)
    rw [e] at this
    have h7 : (0 : Nat) = c := this
    omega
  · have := trn_other (l := ln s f t c) (j := j) (t := i) (k := 0) (by omega)
    rw [e] at this
    exact nums_pos s f t this.symm

theorem turn_may (a b c d : Nat) : may ((a % 65534 : Nat) : Int) ((b % 65534 : Nat) : Int) ((c % 65534 : Nat) : Int) ((1 + d % 65534 : Nat) : Int) = true := by
  unfold may May
  exact decide_eq_true (by omega)

set_option maxHeartbeats 2000000 in
set_option maxRecDepth 100000 in
theorem turned_any (w : World) (a1 a2 a3 a4 bit : Nat) (ha1 : a1 < 65536) (ha2 : a2 < 65536) (ha3 : a3 < 65536) (ha4 : a4 < 65536) (hbit : bit < 65536) :
    Calls Try.prog 6 #[.int .u16 (a1 : Int), .int .u16 (a2 : Int), .int .u16 (a3 : Int), .int .u16 (a4 : Int), .int .u16 (bit : Int)] w fun r w' => r = .returned (.bool true) ∧ Below w.heap.size w w' := by
  have HL := Lib.hid lives_any
  have hmay := turn_may a1 a2 a3 a4
  obtain ⟨s, hs'⟩ : ∃ s, s = a1 % 65534 := ⟨_, rfl⟩
  obtain ⟨f, hf'⟩ : ∃ f, f = a2 % 65534 := ⟨_, rfl⟩
  obtain ⟨t, ht'⟩ : ∃ t, t = a3 % 65534 := ⟨_, rfl⟩
  obtain ⟨c, hc'⟩ : ∃ c, c = 1 + a4 % 65534 := ⟨_, rfl⟩
  have E1 := Lib.hid (show (a1 : Int) % 65534 = (s : Int) by omega)
  have E2 := Lib.hid (show (a2 : Int) % 65534 = (f : Int) by omega)
  have E3 := Lib.hid (show (a3 : Int) % 65534 = (t : Int) by omega)
  have E4 := Lib.hid (show 1 + (a4 : Int) % 65534 = (c : Int) by omega)
  rw [← hs', ← hf', ← ht', ← hc'] at hmay
  obtain ⟨L, hL⟩ : ∃ L, ln s f t c = L := ⟨_, rfl⟩
  have HE := Lib.hid (fun w => encode_yes w s f t c hmay)
  rw [hL] at HE
  have HLL := Lib.hid (show L.length = 8 by rw [← hL]; exact ln_len _ _ _ _)
  have HUL := Lib.hid (show ∀ x ∈ L, x < 18446744073709551616 by rw [← hL]; exact ln_u64 hmay)
  have HNL := Lib.hid (show ∀ j i, j < 8 → i < 64 → dec (trn L j i) = none ∧ st (trn L j i) = 2 from fun j i hj hi => by
    rw [← hL]
    exact ⟨trn_none hmay hj hi, st_none (trn_zero hmay) (trn_none hmay hj hi)⟩)
  clear hL hs' hf' ht' hc' hmay
  go_enter Try.func6, Try.ntmps6
  go_wp2_with fail
  refine (HL.out _).mono ?_
  rintro e w0 ⟨rfl, hb⟩
  have HB0 := Lib.hid hb
  clear hb
  go_wp2_with fail
  rw [E1.out, E2.out, E3.out, E4.out]
  refine (HE.out _).mono ?_
  rintro e w1 ⟨g, hg, rfl, hrow, hb⟩
  have HB2 := Lib.hid (HB0.out.trans (hb.mono HB0.out.size))
  have hg' : w.heap.size ≤ g := Nat.le_trans HB0.out.size hg
  have HR := Lib.hid hrow
  obtain ⟨B, hB⟩ : ∃ B, B = bit % 512 := ⟨_, rfl⟩
  have hB1 : B < 512 := by omega
  have E5 := Lib.hid (show (bit : Int) % 512 = (B : Int) by omega)
  obtain ⟨d, hd⟩ : ∃ d, d = B / 64 := ⟨_, rfl⟩
  obtain ⟨i, hi⟩ : ∃ i, i = B % 64 := ⟨_, rfl⟩
  have hd8 : d < 8 := by omega
  have hi64 : i < 64 := by omega
  have HN := Lib.hid (HNL.out d i hd8 hi64)
  have HU := Lib.hid (trn_u64 HUL.out d hi64)
  have HX := Lib.hid (at_u64 HUL.out d)
  clear hb hrow hg HB0 hB HNL HUL
  go_wp2
  rw [E5.out]
  have hrc := HR.out.cell hd8
  have hrf := HR.out.frozen d
  unfold rowOf at hrc
  have HRT := Lib.hid (row_trn (t := i) HLL.out hd8 HR.out)
  have hxl : L[d]?.getD 0 < 18446744073709551616 := HX.out
  generalize L[d]?.getD 0 = x at *
  have he : (B : Int) / 64 = (d : Int) := by omega
  have hm' : (B : Int) % 64 = (i : Int) := by omega
  have hwd2 : IntKind.wrap .i64 (d : Int) = (d : Int) := by rw [IntKind.wrap_i64]; omega
  have hwt2 : IntKind.wrap .i64 (i : Int) = (i : Int) := by rw [IntKind.wrap_i64]; omega
  have hd0 : (0 : Int) ≤ (d : Int) := by omega
  have hd1 : (d : Int) < 8 := by omega
  have ht0 : (0 : Int) ≤ (i : Int) := by omega
  have ht1 : (i : Int) < 64 := by omega
  have hpw := wrap_pow hi64
  have hxo : bits .xor .u64 (x : Int) (2 ^ i : Int) = ((x ^^^ 2 ^ i : Nat) : Int) := by
    have h1 : (2 : Int) ^ i = ((2 ^ i : Nat) : Int) := by simp
    rw [h1]
    exact u64_xor_nat x (2 ^ i) hxl (Nat.pow_lt_pow_right (n := 64) (by omega) hi64)
  clear hd hi E5 hB1
  go_region
  clear he hm' hwd2 hwt2 hpw hxo
  have hdc := decode_any (some ⟨g, 0, none⟩) 8 (trn L d i) (row_pack HRT.out.drew (by rw [trn_len]; exact HLL.out) HU.out)
  rw [HN.out.1, HN.out.2, show (trn L d i).length = 8 by rw [trn_len]; exact HLL.out] at hdc
  simp only [gv] at hdc
  have HD := Lib.hid hdc
  have HB3 := Lib.hid (show Below w.heap.size w (w1.setCell ⟨g, d, none⟩ (.int .u64 ((x ^^^ 2 ^ i : Nat) : Int))).drew from (HB2.out.setCell hg' _).drew)
  clear hdc hrc hrf HRT HU HN HR HB2
  go_wp2_with fail
  generalize (w1.setCell ⟨g, d, none⟩ (.int .u64 ((x ^^^ 2 ^ i : Nat) : Int))).drew = w2 at *
  refine HD.out.mono ?_
  rintro e w3 ⟨rfl, hb⟩
  have hb4 := hb.alloc hb.size (.cells #[.int .i64 0, .int .i64 0, .int .i64 0, .int .i64 0] 23)
  have HB4 := Lib.hid (HB3.out.trans (hb4.mono HB3.out.size))
  clear hb hb4 HB3 HD
  go_wp2
  go_ret
  exact ⟨rfl, HB4.out⟩
end Rec
end Go.Proofs.Ytamkelcgalfkcaa
