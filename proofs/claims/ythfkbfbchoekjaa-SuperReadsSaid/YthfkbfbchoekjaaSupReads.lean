/- SuperReads, walked. -/
import Derived.Test.YthfkbfbchoekjaaSupRead
import Derived.Deep.DeepCutAuto
namespace Go.Proofs.Ythfkbfbchoekjaa
open Go.RowKit Go.MapKept
namespace Sup

/-- a device behind k stores of the words l -/
def put (L : Nat) (l : List Nat) : Nat → Pm.Abs
  | 0 => Pm.Abs.fresh L
  | k + 1 => (put L l k).storeAt (k : Int) ((l[k]?.getD 0 : Nat) : Int)

structure Put (A : Pm.Abs) (L : Nat) (l : List Nat) (k : Nat) : Prop where
  steps : A.steps ≤ k
  up : A.armed = false
  len : A.words.length = L
  get : ∀ i, A.words[i]?.getD 0 = if i < k ∧ i < L then ((l[i]?.getD 0 : Nat) : Int) else 0

theorem put_is (L : Nat) (l : List Nat) : ∀ k, Put (put L l k) L l k
  | 0 => ⟨Nat.le_refl _, rfl, by simp [put, Pm.Abs.fresh], fun i => by
      rw [if_neg (by omega)]
      show (List.replicate L (0 : Int))[i]?.getD 0 = 0
      rcases Nat.lt_or_ge i L with h | h
      · rw [List.getElem?_replicate, if_pos h]; rfl
      · rw [List.getElem?_replicate, if_neg (by omega)]; rfl⟩
  | k + 1 => by
    have ih := put_is L l k
    show Put ((put L l k).storeAt (k : Int) ((l[k]?.getD 0 : Nat) : Int)) L l (k + 1)
    generalize put L l k = A at *
    have hd : A.down = false := by unfold Pm.Abs.down; rw [ih.up]; rfl
    by_cases hk : k < L
    · have hc : A.canStore (k : Int) = true := by
        unfold Pm.Abs.canStore Pm.Abs.has
        rw [hd, ih.len]
        simp
        omega
      unfold Pm.Abs.storeAt
      rw [if_pos hc, Int.toNat_natCast]
      refine ⟨?_, ?_, ?_, fun i => ?_⟩
      · show A.steps + 1 ≤ k + 1
        have := ih.steps
        omega
      · exact ih.up
      · show (A.words.set k _).length = L
        rw [List.length_set]
        exact ih.len
      · show (A.words.set k _)[i]?.getD 0 = _
        by_cases hi : i = k
        · subst hi
          rw [List.getElem?_set_self (by rw [ih.len]; exact hk), if_pos ⟨by omega, hk⟩]
          rfl
        · rw [List.getElem?_set_ne (fun h => hi h.symm), ih.get i]
          by_cases h1 : i < k ∧ i < L
          · rw [if_pos h1, if_pos (by omega)]
          · rw [if_neg h1, if_neg (by omega)]
    · have hc : A.canStore (k : Int) = false := by
        unfold Pm.Abs.canStore Pm.Abs.has
        rw [ih.len]
        simp
        omega
      unfold Pm.Abs.storeAt
      rw [if_neg (by rw [hc]; simp)]
      refine ⟨by have := ih.steps; omega, ih.up, ih.len, fun i => ?_⟩
      rw [ih.get i]
      by_cases h1 : i < k ∧ i < L
      · rw [if_pos h1, if_pos (by omega)]
      · rw [if_neg h1, if_neg (by omega)]

theorem put_u64 (L : Nat) {l : List Nat} (hl : ∀ x ∈ l, x < 18446744073709551616) (k : Nat) : U64 (put L l k).words := by
  intro x hx
  have h := put_is L l k
  obtain ⟨i, hi, rfl⟩ := List.getElem_of_mem hx
  have h1 := h.get i
  rw [List.getElem?_eq_getElem hi] at h1
  have h2 : l[i]?.getD 0 < 18446744073709551616 := by
    rcases Nat.lt_or_ge i l.length with h | h
    · rw [List.getElem?_eq_getElem h]
      exact hl _ (List.getElem_mem h)
    · rw [List.getElem?_eq_none h]
      decide
  simp only [Option.getD_some] at h1
  rw [h1]
  split <;> omega

theorem rd_put {L : Nat} {l : List Nat} (hL : 8 ≤ L) (hl : l.length = 8) : rd (put L l 8) = l := by
  refine List.ext_getElem (by rw [rd_len, hl]) (fun i h1 h2 => ?_)
  have h8 : i < 8 := by omega
  have e := rd_get (put L l 8) h8
  rw [List.getElem?_eq_getElem h1, (put_is L l 8).get i, if_pos ⟨h8, by omega⟩, List.getElem?_eq_getElem h2] at e
  simpa using e

theorem ron_few {L : Nat} (l : List Nat) (hL : L < 48) : ron l L = none := by
  unfold ron
  cases h : dec l with
  | none => rfl
  | some q =>
    obtain ⟨n, m, s⟩ := q
    have := fin_len (dec_some h).1
    simp only
    rw [if_neg (by omega)]

theorem ron_none {L : Nat} {l : List Nat} (h : dec l = none) : ron l L = none := by
  unfold ron
  rw [h]
theorem ron_other {n m s L : Nat} (h : Geo.may n m s = true) (hL : Geo.fin n m s ≠ (L : Int)) : ron (sb n m s) L = none := by
  unfold ron
  rw [dec_sb h]
  simp only
  rw [if_neg hL]
theorem ron_own {n m s L : Nat} (h : Geo.may n m s = true) (hL : Geo.fin n m s = (L : Int)) : ron (sb n m s) L = some (n, m, s) := by
  unfold ron
  rw [dec_sb h]
  simp only
  rw [if_pos hL]

/-- the words that are stored: one bit may be spoilt -/
def spl (l : List Nat) (sp : Nat) : List Nat := if 1 ≤ sp ∧ sp ≤ 512 then trn l ((sp - 1) / 64) ((sp - 1) % 64) else l
theorem spl_no {l : List Nat} {sp : Nat} (h : ¬ (1 ≤ sp ∧ sp ≤ 512)) : spl l sp = l := if_neg h
theorem spl_yes {l : List Nat} {P : Nat} (h : P < 512) : spl l (P + 1) = trn l (P / 64) (P % 64) := by
  unfold spl
  rw [if_pos (by omega)]
  rfl
theorem spl_len (n m s sp : Nat) : (spl (sb n m s) sp).length = 8 := by
  unfold spl trn
  split
  · rw [List.length_set, sb_len]
  · rfl
theorem spl_u64 {n m s : Nat} (h : Geo.may n m s = true) (sp : Nat) : ∀ x ∈ spl (sb n m s) sp, x < 18446744073709551616 := by
  obtain ⟨h1, h2, h3⟩ := may_lt h
  unfold spl
  split
  · exact trn_u64 h1 h2 h3 _ (Nat.mod_lt _ (by omega))
  · exact sb_u64 h1 h2 h3

theorem few_may (n m k : Nat) : Geo.may ((1 + n % 30 : Nat) : Int) ((1 + m % 30 : Nat) : Int) ((64 * 2 ^ (k % 2) : Nat) : Int) = true ∧ Geo.fin ((1 + n % 30 : Nat) : Int) ((1 + m % 30 : Nat) : Int) ((64 * 2 ^ (k % 2) : Nat) : Int) ≤ 2000 := by
  have hn : n % 30 < 30 := Nat.mod_lt _ (by omega)
  have hm : m % 30 < 30 := Nat.mod_lt _ (by omega)
  generalize n % 30 = a at *
  generalize m % 30 = b at *
  have : k % 2 = 0 ∨ k % 2 = 1 := by omega
  have hf : Geo.fin ((1 + a : Nat) : Int) ((1 + b : Nat) : Int) ((64 * 2 ^ (k % 2) : Nat) : Int) ≤ 2000 := by
    unfold Geo.fin Geo.bkAt Geo.bmAt Geo.lines
    rcases this with h | h <;> rw [h] <;> omega
  refine ⟨Geo.may_yes ⟨⟨by omega, by omega, ?_⟩, by omega⟩, hf⟩
  unfold Geo.Sz
  rcases this with h | h <;> rw [h] <;> decide

set_option maxHeartbeats 2000000 in
set_option maxRecDepth 100000 in
theorem reads_any (w : World) (n m k : Nat) (more : Int) (sp : Nat) (hn : n < 256) (hm : m < 256) (hk : k < 256) (hmr : -9223372036854775808 ≤ more ∧ more ≤ 9223372036854775807) (hsp : sp < 65536) :
    Calls Try.prog 6 #[.int .u8 (n : Int), .int .u8 (m : Int), .int .u8 (k : Int), .int .i64 more, .int .u16 (sp : Int)] w fun r w' => r = .returned (.bool true) ∧ Below w.heap.size w w' := by
  have HL := Lib.hid lives_any
  go_enter Try.func6, Try.ntmps6
  go_wp2_with fail
  refine (HL.out _).mono ?_
  rintro e w0 ⟨rfl, hb⟩
  have HB0 := Lib.hid hb
  obtain ⟨hmay, hfin⟩ := few_may n m k
  obtain ⟨N, hN⟩ : ∃ N, N = 1 + n % 30 := ⟨_, rfl⟩
  obtain ⟨M, hM⟩ : ∃ M, M = 1 + m % 30 := ⟨_, rfl⟩
  obtain ⟨S, hS⟩ : ∃ S, S = 64 * 2 ^ (k % 2) := ⟨_, rfl⟩
  have E1 := Lib.hid (show (1 : Int) + (n : Int) % 30 = (N : Int) by omega)
  have E2 := Lib.hid (show (1 : Int) + (m : Int) % 30 = (M : Int) by omega)
  have E3 := Lib.hid (show wrap64 (64 * 2 ^ (k % 2)) = (S : Int) by
    have e : (64 : Int) * 2 ^ (k % 2) = (S : Int) := by rw [hS]; simp
    rw [e]
    refine IntWalk.wrap64_in _ ?_
    have : k % 2 = 0 ∨ k % 2 = 1 := by omega
    rcases this with h | h <;> rw [h] at hS <;> omega)
  rw [← hN, ← hM, ← hS] at hmay hfin
  have hf48 := fin_len hmay
  clear hb hN hM hS
  have hof := fun w => Geo.of_any w (N : Int) (M : Int) (S : Int)
  rw [hmay, Geo.parts_yes hmay] at hof
  obtain ⟨E, hE⟩ := Int.eq_ofNat_of_zero_le (show 0 ≤ Geo.fin N M S by omega)
  rw [hE] at hof hfin hf48
  have HO := Lib.hid hof
  clear hof
  go_wp2_with fail
  rw [E1.out, E2.out, E3.out]
  have HX0 := Lib.hid (Geo.boxed w0 N M S 24)
  have HB1 := Lib.hid (HB0.out.alloc HB0.out.size (.cells #[.int .i64 (N : Int), .int .i64 (M : Int), .int .i64 (S : Int)] 24))
  refine (HO.out _).mono ?_
  rintro e w1 ⟨rfl, hb⟩
  have hb2 := hb.alloc hb.size (.cells #[.int .i64 16, .int .i64 (16 + (M : Int) * 8), .int .i64 (Geo.bmAt N M), .int .i64 (Geo.bkAt N M), .int .i64 (E : Int)] 42)
  have HB2 := Lib.hid (HB1.out.trans (hb2.mono HB1.out.size))
  have HX2 := Lib.hid (HX0.out.keep hb2)
  have HP2 := Lib.hid (Pack.alloc_cell w1 #[.int .i64 16, .int .i64 (16 + (M : Int) * 8), .int .i64 (Geo.bmAt N M), .int .i64 (Geo.bkAt N M), .int .i64 (E : Int)] 42 4)
  have HZ2 := Lib.hid (World.size_alloc w1 (.cells #[.int .i64 16, .int .i64 (16 + (M : Int) * 8), .int .i64 (Geo.bmAt N M), .int .i64 (Geo.bkAt N M), .int .i64 (E : Int)] 42))
  have hc0 := HX2.out.c0
  have hc1 := HX2.out.c1
  have hc2 := HX2.out.c2
  clear hb hb2 HO HX0 HB0 HB1 E1 E2 E3
  go_wp2_with fail
  generalize w1.alloc (.cells #[.int .i64 16, .int .i64 (16 + (M : Int) * 8), .int .i64 (Geo.bmAt N M), .int .i64 (Geo.bkAt N M), .int .i64 (E : Int)] 42) = w2 at *
  generalize w1.heap.size = k1 at *
  generalize w0.heap.size = k0 at *
  have hk1 : k1 < w2.heap.size := by have := HZ2.out; omega
  refine (encode_yes _ N M S hmay).mono ?_
  rintro e w3 ⟨g, _, rfl, hrow, hb⟩
  have HB3 := Lib.hid (HB2.out.trans (hb.mono HB2.out.size))
  have HX3 := Lib.hid (HX2.out.keep hb)
  have HR3 := Lib.hid hrow
  have HP3 := Lib.hid ((hb.cell (p := ⟨k1, 4, none⟩) hk1).trans HP2.out)
  have hk13 : k1 < w3.heap.size := Nat.lt_of_lt_of_le hk1 hb.size
  have hc4 := HP3.out
  simp only [List.getElem?_toArray, List.getElem?_cons_succ, List.getElem?_cons_zero] at hc4
  clear hb hrow HB2 HX2 HP2 hc0 hc1 hc2 hk1 HZ2
  have hE0 : (0 : Int) ≤ (E : Int) := by omega
  have hE1 : (E : Int) ≤ 2000 := by omega
  obtain ⟨q, hq⟩ : ∃ q : Int, q = min (max more (-(E : Int))) 20 := ⟨_, rfl⟩
  have hq0 : -(E : Int) ≤ q := by omega
  have hq1 : q ≤ 20 := by omega
  have HQ := Lib.hid hq
  clear hq
  go_upto_region 8 with fail
  go_cut [3] (fun s3 wx => s3 = .int .i64 q ∧ w3 = wx)
  case first =>
    go_wp2
    all_goals
      go_meet
      refine ⟨?_, rfl⟩
      have := HQ.out
      congr 1
      omega
  case rest =>
    obtain ⟨rfl, rfl⟩ := hcut
    obtain ⟨L, hL⟩ := Int.eq_ofNat_of_zero_le (show 0 ≤ (E : Int) + q by omega)
    have hL2 : L ≤ 2020 := by omega
    have HNW := Lib.hid (Pm.ses_new (L : Int) L (by omega))
    go_wp2_with fail
    refine (HNW.out _).mono ?_
    rintro e w4 ⟨rfl, hses⟩
    have H4 := Lib.hid hses
    have HLQ := Lib.hid hL
    have HU := Lib.hid (spl_u64 hmay sp)
    clear hses hL HNW HQ hc4
    go_wp2
    go_loopw [74] (fun i wr => ∃ (k : Nat), k ≤ 8 ∧ i = .int .i64 (k : Int) ∧ Pm.Ses w3.heap.size w3 wr (w3.heap.size + 2) (put L (spl (sb N M S) sp) k)) (fun i _ => 8 - (intOf i).toNat)
    case atStart => exact ⟨0, Nat.zero_le _, rfl, H4.out⟩
    case round =>
      obtain ⟨k', hk', rfl, hses⟩ := hrel
      have HS := Lib.hid hses
      clear hses H4
      by_cases hlt : k' < 8
      · have hrc := (HR3.out.of_block (HS.out.below.block _ HR3.out.lt)).cell hlt
        unfold rowOf at hrc
        have hi0 : (0 : Int) ≤ (k' : Int) := by omega
        have hi1 : (k' : Int) < 8 := by omega
        have HC := Lib.hid (Pm.ses_store HS.out (k' : Int) (((spl (sb N M S) sp)[k']?.getD 0 : Nat) : Int) (by have := (put_is L (spl (sb N M S) sp) k').steps; omega))
        have hst : (put L (spl (sb N M S) sp) k').storeAt (k' : Int) (((spl (sb N M S) sp)[k']?.getD 0 : Nat) : Int) = put L (spl (sb N M S) sp) (k' + 1) := rfl
        rw [hst] at HC
        clear hst
        by_cases hsp0 : sp = 0
        · have HE := Lib.hid (show (spl (sb N M S) sp)[k']?.getD 0 = (sb N M S)[k']?.getD 0 by rw [spl_no (by omega)])
          have hz1 : decide ((0 : Int) < (sp : Int)) = false := by simp; omega
          have hz2 : decide (0 < sp) = false := by simp; omega
          clear hsp0
          rw [HE.out] at HC
          generalize (sb N M S)[k']?.getD 0 = x at *
          go_wp2_with fail
          refine HC.out.mono ?_
          rintro e w5 ⟨rfl, hs5⟩
          have HS5 := Lib.hid hs5
          clear hs5
          go_wp2
          refine ⟨⟨k' + 1, by omega, by go_num, HS5.out⟩, by simp [intOf]; omega⟩
        · by_cases hsp1 : 512 < sp
          · have HE := Lib.hid (show (spl (sb N M S) sp)[k']?.getD 0 = (sb N M S)[k']?.getD 0 by rw [spl_no (by omega)])
            rw [HE.out] at HC
            generalize (sb N M S)[k']?.getD 0 = x at *
            go_wp2_with fail
            refine HC.out.mono ?_
            rintro e w5 ⟨rfl, hs5⟩
            have HS5 := Lib.hid hs5
            clear hs5
            go_wp2
            refine ⟨⟨k' + 1, by omega, by go_num, HS5.out⟩, by simp [intOf]; omega⟩
          · obtain ⟨P, hP⟩ : ∃ P, sp = P + 1 := ⟨sp - 1, by omega⟩
            have hP1 : P < 512 := by omega
            obtain ⟨j, hj⟩ : ∃ j, j = P / 64 := ⟨_, rfl⟩
            obtain ⟨t, ht⟩ : ∃ t, t = P % 64 := ⟨_, rfl⟩
            have HE0 := Lib.hid (spl_yes (l := sb N M S) hP1)
            rw [← hj, ← ht] at HE0
            have hx64 : (sb N M S)[k']?.getD 0 < 18446744073709551616 := by
              rw [List.getElem?_eq_getElem (by rw [sb_len]; exact hlt)]
              obtain ⟨h1, h2, h3⟩ := may_lt hmay
              exact sb_u64 h1 h2 h3 _ (List.getElem_mem _)
            by_cases hkj : k' = j
            · have HE := Lib.hid (show (spl (sb N M S) sp)[k']?.getD 0 = (sb N M S)[k']?.getD 0 ^^^ 2 ^ t by
                rw [hP, HE0.out, hkj]
                unfold trn
                rw [List.getElem?_set_self (by rw [sb_len]; omega)]
                rfl)
              rw [HE.out] at HC
              generalize (sb N M S)[k']?.getD 0 = x at *
              have heq : ((k' : Int) == ((sp : Int) - 1) / 64) = true := by simp; omega
              have ht64 : t < 64 := by omega
              have HT := Lib.hid (show bits .xor .u64 (x : Int) (IntKind.wrap .u64 (2 ^ ((sp - 1) % 64))) = ((x ^^^ 2 ^ t : Nat) : Int) by
                rw [show (sp - 1) % 64 = t by omega, wrap_pow ht64, show (2 : Int) ^ t = ((2 ^ t : Nat) : Int) by simp]
                exact u64_xor_nat x (2 ^ t) hx64 (Nat.pow_lt_pow_right (n := 64) (by omega) ht64))
              clear hP hj ht hkj HE HE0
              go_wp2_with fail
              rw [HT.out]
              refine HC.out.mono ?_
              rintro e w5 ⟨rfl, hs5⟩
              have HS5 := Lib.hid hs5
              clear hs5
              go_wp2
              refine ⟨⟨k' + 1, by omega, by go_num, HS5.out⟩, by simp [intOf]; omega⟩
            · have HE := Lib.hid (show (spl (sb N M S) sp)[k']?.getD 0 = (sb N M S)[k']?.getD 0 by
                rw [hP, HE0.out]
                unfold trn
                rw [List.getElem?_set_ne (fun h => hkj h.symm)])
              rw [HE.out] at HC
              generalize (sb N M S)[k']?.getD 0 = x at *
              have hne : ¬ (k' : Int) = ((sp : Int) - 1) / 64 := by omega
              clear hP hj ht hkj
              go_wp2_with fail
              refine HC.out.mono ?_
              rintro e w5 ⟨rfl, hs5⟩
              have HS5 := Lib.hid hs5
              clear hs5
              go_wp2
              refine ⟨⟨k' + 1, by omega, by go_num, HS5.out⟩, by simp [intOf]; omega⟩
      · obtain rfl : k' = 8 := by omega
        have hlen := (put_is L (spl (sb N M S) sp) 8).len
        have hrd := read_any HS.out (put_u64 L HU.out 8)
        rw [hlen] at hrd
        have HX5 := Lib.hid (HX3.out.keep HS.out.below)
        have HB5 := Lib.hid (HB3.out.trans (HS.out.below.mono HB3.out.size))
        have hLE := HLQ.out
        by_cases hok : q = 0 ∧ ¬ (1 ≤ sp ∧ sp ≤ 512)
        · have ho : ron (rd (put L (spl (sb N M S) sp) 8)) L = some (N, M, S) := by
            rw [rd_put (by omega) (spl_len _ _ _ _), spl_no hok.2]
            exact ron_own hmay (by omega)
          rw [ho] at hrd
          simp only [gv, ev] at hrd
          have HRD := Lib.hid hrd
          have hq1 : ((q : Int) == 0) = true := by simp; omega
          clear hrd ho hLE hlen
          by_cases hsp0 : sp = 0
          · have hz1 : ((sp : Int) == 0) = true := by simp; omega
            clear hok hsp0
            go_wp2_with fail
            refine HRD.out.mono ?_
            rintro e w6 ⟨rfl, hb⟩
            have HB6 := Lib.hid (HB5.out.trans (hb.mono HB5.out.size))
            have HX6 := Lib.hid (HX5.out.keep hb)
            have hlt6 : k0 < w6.heap.size := HX6.out.lt
            have hc0 := HX6.out.c0
            have hc1 := HX6.out.c1
            have hc2 := HX6.out.c2
            clear hb
            go_wp2
            go_ret
            exact ⟨rfl, HB6.out.alloc HB6.out.size _⟩
          · have hz1 : ((sp : Int) == 0) = false := by simp; omega
            have hz2 : 512 < sp := by omega
            clear hok hsp0
            go_wp2_with fail
            refine HRD.out.mono ?_
            rintro e w6 ⟨rfl, hb⟩
            have HB6 := Lib.hid (HB5.out.trans (hb.mono HB5.out.size))
            have HX6 := Lib.hid (HX5.out.keep hb)
            have hlt6 : k0 < w6.heap.size := HX6.out.lt
            have hc0 := HX6.out.c0
            have hc1 := HX6.out.c1
            have hc2 := HX6.out.c2
            clear hb
            go_wp2
            go_ret
            exact ⟨rfl, HB6.out.alloc HB6.out.size _⟩
        · have ho : ron (rd (put L (spl (sb N M S) sp) 8)) L = none := by
            by_cases hfew : L < 48
            · exact ron_few _ hfew
            · rw [rd_put (by omega) (spl_len _ _ _ _)]
              by_cases hs : 1 ≤ sp ∧ sp ≤ 512
              · refine ron_none ?_
                unfold spl
                rw [if_pos hs]
                exact trn_none hmay (by omega) (Nat.mod_lt _ (by omega))
              · rw [spl_no hs]
                exact ron_other hmay (by omega)
          rw [ho] at hrd
          simp only [gv, ev] at hrd
          have HRD := Lib.hid hrd
          clear hrd ho hLE hlen
          by_cases hq0 : q = 0
          · have hq1 : ((q : Int) == 0) = true := by simp; omega
            have hz1 : ((sp : Int) == 0) = false := by simp; omega
            have hz2 : ¬ 512 < sp := by omega
            clear hok hq0
            go_wp2_with fail
            refine HRD.out.mono ?_
            rintro e w6 ⟨rfl, hb⟩
            have HB6 := Lib.hid (HB5.out.trans (hb.mono HB5.out.size))
            clear hb
            go_wp2
            go_ret
            exact ⟨rfl, HB6.out.alloc HB6.out.size _⟩
          · have hq1 : ((q : Int) == 0) = false := by simp; omega
            clear hok
            go_wp2_with fail
            refine HRD.out.mono ?_
            rintro e w6 ⟨rfl, hb⟩
            have HB6 := Lib.hid (HB5.out.trans (hb.mono HB5.out.size))
            clear hb
            go_wp2
            go_ret
            exact ⟨rfl, HB6.out.alloc HB6.out.size _⟩
end Sup
end Go.Proofs.Ythfkbfbchoekjaa
