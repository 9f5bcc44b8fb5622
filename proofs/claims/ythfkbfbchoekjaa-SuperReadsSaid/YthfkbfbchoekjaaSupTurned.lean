/- A superblock one of whose bits is turned is none; SuperTurned, walked. -/
import Derived.Test.YthfkbfbchoekjaaSupLives
import Derived.Test.YthfkbfbchoekjaaCrcLine
import Derived.RegionTactic
import Derived.ChangeAlike
namespace Go.Proofs.Ythfkbfbchoekjaa
open Go.RowKit Go.MapKept
namespace Sup

/-- one bit turned -/
def trn (l : List Nat) (j t : Nat) : List Nat := l.set j (l[j]?.getD 0 ^^^ 2 ^ t)

theorem xor_ne (x t : Nat) : x ^^^ 2 ^ t ≠ x := by
  intro h
  have h1 : (x ^^^ 2 ^ t).testBit t = x.testBit t := by rw [h]
  rw [Nat.testBit_xor, Nat.testBit_two_pow_self] at h1
  cases x.testBit t <;> simp at h1

theorem front_u64 {n m s : Nat} (hn : n < 65536) (hm : m < 65536) (hs : s < 65536) : ∀ x ∈ front n m s, x < 18446744073709551616 := by
  intro x hx
  have h1 := nums_lt hn hm hs
  have h3 := magic_lt
  simp only [front, List.mem_cons, List.not_mem_nil, or_false] at hx
  rcases hx with rfl | rfl | rfl | rfl | rfl | rfl | rfl <;> omega

theorem trn_none {n m s : Nat} (h : Geo.may n m s = true) {j t : Nat} (hj : j < 8) (ht : t < 64) : dec (trn (sb n m s) j t) = none := by
  obtain ⟨h1, h2, h3⟩ := may_lt h
  refine dec_none (fun n' m' s' h' e => ?_)
  have hg : ∀ k, k < 8 → (trn (sb n m s) j t)[k]?.getD 0 = (sb n' m' s')[k]?.getD 0 := fun k _ => by rw [e]
  have hs : ∀ k, k ≠ j → (trn (sb n m s) j t)[k]?.getD 0 = (sb n m s)[k]?.getD 0 := fun k hk => by
    unfold trn
    rw [List.getElem?_set_ne (fun h => hk h.symm)]
  have hj' : (trn (sb n m s) j t)[j]?.getD 0 = (sb n m s)[j]?.getD 0 ^^^ 2 ^ t := by
    unfold trn
    rw [List.getElem?_set_self (by rw [sb_len]; exact hj)]
    rfl
  have hx := hg j hj
  rw [hj'] at hx
  have : j = 1 ∨ j = 7 ∨ (j = 0 ∨ j = 2 ∨ j = 3 ∨ j = 4 ∨ j = 5 ∨ j = 6) := by omega
  rcases this with rfl | rfl | hr
  · have h7 := hg 7 (by omega)
    rw [hs 7 (by omega)] at h7
    have hx1 : nums n m s ^^^ 2 ^ t = nums n' m' s' := hx
    have h71 : sum n m s = sum n' m' s' := h7
    refine Crc.line_told32 (front_u64 h1 h2 h3) (j := 1) (t := t) (by rw [front_len]; omega) ht ?_
    have e2 : (front n m s).set 1 ((front n m s)[1]?.getD 0 ^^^ 2 ^ t) = front n' m' s' := by
      show [magic, nums n m s ^^^ 2 ^ t, 0, 0, 0, 0, 0] = _
      rw [hx1]
      rfl
    rw [e2]
    exact h71.symm
  · have h1' := hg 1 (by omega)
    rw [hs 1 (by omega)] at h1'
    have hx1 : sum n m s ^^^ 2 ^ t = sum n' m' s' := hx
    have h11 : nums n m s = nums n' m' s' := h1'
    have e2 : sum n m s = sum n' m' s' := by
      unfold sum front
      rw [h11]
    exact xor_ne _ _ (hx1.trans e2.symm)
  · refine xor_ne ((sb n m s)[j]?.getD 0) t (hx.trans ?_)
    rcases hr with rfl | rfl | rfl | rfl | rfl | rfl <;> rfl

theorem trn_u64 {n m s : Nat} (hn : n < 65536) (hm : m < 65536) (hs : s < 65536) (j : Nat) {t : Nat} (ht : t < 64) : ∀ x ∈ trn (sb n m s) j t, x < 18446744073709551616 := by
  intro x hx
  rcases List.mem_or_eq_of_mem_set hx with h | rfl
  · exact sb_u64 hn hm hs x h
  · refine Crc.turned_lt ?_ ht
    rcases Nat.lt_or_ge j 8 with h | h
    · rw [List.getElem?_eq_getElem (by rw [sb_len]; exact h)]
      exact sb_u64 hn hm hs _ (List.getElem_mem _)
    · rw [List.getElem?_eq_none (by rw [sb_len]; exact h)]
      decide

theorem row_trn {w : World} {g j t : Nat} {l : List Nat} (hl : l.length = 8) (hj : j < 8) (h : w.rowIs g 39 8 (rowOf l)) : (w.setCell ⟨g, j, none⟩ (.int .u64 ((l[j]?.getD 0 ^^^ 2 ^ t : Nat) : Int))).rowIs g 39 8 (rowOf (trn l j t)) :=
  (h.set j (.int .u64 ((l[j]?.getD 0 ^^^ 2 ^ t : Nat) : Int))).congr (fun i hi => by
    unfold rowOf trn
    by_cases e : i = j
    · subst e
      rw [if_pos rfl, List.getElem?_set_self (by omega)]
      rfl
    · rw [if_neg e, List.getElem?_set_ne (fun h => e h.symm)])

theorem mid_may (n m k : Nat) : Geo.may ((1 + n % 3000 : Nat) : Int) ((1 + m % 3000 : Nat) : Int) ((64 * 2 ^ (k % 3) : Nat) : Int) = true := by
  have hn : n % 3000 < 3000 := Nat.mod_lt _ (by omega)
  have hm : m % 3000 < 3000 := Nat.mod_lt _ (by omega)
  generalize n % 3000 = a at *
  generalize m % 3000 = b at *
  have : k % 3 = 0 ∨ k % 3 = 1 ∨ k % 3 = 2 := by omega
  refine Geo.may_yes ⟨⟨by omega, by omega, ?_⟩, ?_⟩
  · unfold Geo.Sz
    rcases this with h | h | h <;> rw [h] <;> decide
  · unfold Geo.fin Geo.bkAt Geo.bmAt Geo.lines
    rcases this with h | h | h <;> rw [h] <;> omega

theorem wrap_pow {t : Nat} (ht : t < 64) : IntKind.wrap .u64 (2 ^ t : Int) = (2 ^ t : Int) := by
  have h2 : 2 ^ t < 18446744073709551616 := Nat.pow_lt_pow_right (n := 64) (by omega) ht
  have h1 : (2 : Int) ^ t = ((2 ^ t : Nat) : Int) := by simp
  rw [h1]
  clear h1
  generalize 2 ^ t = y at *
  rw [IntKind.wrap_u64]
  omega

set_option maxHeartbeats 1000000 in
theorem turned_any (w : World) (n m k bit : Nat) (hn : n < 65536) (hm : m < 65536) (hk : k < 256) (hbit : bit < 65536) :
    Calls Try.prog 5 #[.int .u16 (n : Int), .int .u16 (m : Int), .int .u8 (k : Int), .int .u16 (bit : Int)] w fun r w' => r = .returned (.bool true) ∧ Below w.heap.size w w' := by
  have HL := Lib.hid lives_any
  go_enter Try.func5, Try.ntmps5
  go_wp2_with fail
  refine (HL.out _).mono ?_
  rintro e w0 ⟨rfl, hb⟩
  have HB0 := Lib.hid hb
  have hmay := mid_may n m k
  obtain ⟨N, hN⟩ : ∃ N, N = 1 + n % 3000 := ⟨_, rfl⟩
  obtain ⟨M, hM⟩ : ∃ M, M = 1 + m % 3000 := ⟨_, rfl⟩
  obtain ⟨S, hS⟩ : ∃ S, S = 64 * 2 ^ (k % 3) := ⟨_, rfl⟩
  have E1 := Lib.hid (show (1 : Int) + (n : Int) % 3000 = (N : Int) by omega)
  have E2 := Lib.hid (show (1 : Int) + (m : Int) % 3000 = (M : Int) by omega)
  have E3 := Lib.hid (show wrap64 (64 * 2 ^ (k % 3)) = (S : Int) by
    have e : (64 : Int) * 2 ^ (k % 3) = (S : Int) := by rw [hS]; simp
    rw [e]
    refine IntWalk.wrap64_in _ ?_
    have : k % 3 = 0 ∨ k % 3 = 1 ∨ k % 3 = 2 := by omega
    rcases this with h | h | h <;> rw [h] at hS <;> omega)
  rw [← hN, ← hM, ← hS] at hmay
  clear hb hN hM hS
  go_wp2_with fail
  rw [E1.out, E2.out, E3.out]
  obtain ⟨h1, h2, h3⟩ := may_lt hmay
  have HB1 := Lib.hid (HB0.out.alloc HB0.out.size (.cells #[.int .i64 (N : Int), .int .i64 (M : Int), .int .i64 (S : Int)] 24))
  refine (encode_yes _ N M S hmay).mono ?_
  rintro e w1 ⟨g, hg, rfl, hrow, hb⟩
  have HB2 := Lib.hid (HB1.out.trans (hb.mono HB1.out.size))
  have hg' : w.heap.size ≤ g := Nat.le_trans HB1.out.size hg
  have HR := Lib.hid hrow
  obtain ⟨B, hB⟩ : ∃ B, B = bit % 512 := ⟨_, rfl⟩
  have hB1 : B < 512 := by omega
  have E4 := Lib.hid (show (bit : Int) % 512 = (B : Int) by omega)
  obtain ⟨d, hd⟩ : ∃ d, d = B / 64 := ⟨_, rfl⟩
  obtain ⟨t, ht⟩ : ∃ t, t = B % 64 := ⟨_, rfl⟩
  have hd8 : d < 8 := by omega
  have ht64 : t < 64 := by omega
  have HN := Lib.hid (trn_none hmay hd8 ht64)
  have HU := Lib.hid (trn_u64 h1 h2 h3 d ht64)
  have HX := Lib.hid (show (sb N M S)[d]?.getD 0 < 18446744073709551616 by
    rw [List.getElem?_eq_getElem (by rw [sb_len]; exact hd8)]
    exact sb_u64 h1 h2 h3 _ (List.getElem_mem _))
  clear hb hrow hg E1 E2 E3 HB0 HB1 hmay h1 h2 h3 hB
  generalize w0.heap.size = k0 at *
  go_wp2
  rw [E4.out]
  have hrc := HR.out.cell hd8
  have hrf := HR.out.frozen d
  unfold rowOf at hrc
  have HRT := Lib.hid (row_trn (t := t) (sb_len N M S) hd8 HR.out)
  have hxl : (sb N M S)[d]?.getD 0 < 18446744073709551616 := HX.out
  generalize (sb N M S)[d]?.getD 0 = x at *
  have he : (B : Int) / 64 = (d : Int) := by omega
  have hm' : (B : Int) % 64 = (t : Int) := by omega
  have hwd2 : IntKind.wrap .i64 (d : Int) = (d : Int) := by rw [IntKind.wrap_i64]; omega
  have hwt2 : IntKind.wrap .i64 (t : Int) = (t : Int) := by rw [IntKind.wrap_i64]; omega
  have hd0 : (0 : Int) ≤ (d : Int) := by omega
  have hd1 : (d : Int) < 8 := by omega
  have ht0 : (0 : Int) ≤ (t : Int) := by omega
  have ht1 : (t : Int) < 64 := by omega
  have hpw := wrap_pow ht64
  have hxo : bits .xor .u64 (x : Int) (2 ^ t : Int) = ((x ^^^ 2 ^ t : Nat) : Int) := by
    have h1 : (2 : Int) ^ t = ((2 ^ t : Nat) : Int) := by simp
    rw [h1]
    exact u64_xor_nat x (2 ^ t) hxl (Nat.pow_lt_pow_right (n := 64) (by omega) ht64)
  clear hd ht E4 hB1
  go_region
  clear he hm' hwd2 hwt2 hpw hxo
  have hdc := decode_any (some ⟨g, 0, none⟩) 8 (trn (sb N M S) d t) (row_pack HRT.out.drew (by unfold trn; rw [List.length_set, sb_len]) HU.out)
  rw [HN.out, show (trn (sb N M S) d t).length = 8 by unfold trn; rw [List.length_set, sb_len]] at hdc
  simp only [gv, ev] at hdc
  have HD := Lib.hid hdc
  have HB3 := Lib.hid (show Below w.heap.size w (w1.setCell ⟨g, d, none⟩ (.int .u64 ((x ^^^ 2 ^ t : Nat) : Int))).drew from (HB2.out.setCell hg' _).drew)
  clear hdc hrc hrf HRT HU HN HR HB2
  go_wp2_with fail
  generalize (w1.setCell ⟨g, d, none⟩ (.int .u64 ((x ^^^ 2 ^ t : Nat) : Int))).drew = w2 at *
  refine HD.out.mono ?_
  rintro e w3 ⟨rfl, hb⟩
  have HB4 := Lib.hid (HB3.out.trans (hb.mono HB3.out.size))
  clear hb HB3 HD
  go_wp2
  go_ret
  exact ⟨rfl, HB4.out.alloc HB4.out.size _⟩
end Sup
end Go.Proofs.Ythfkbfbchoekjaa
