/- Texts laid together: ChnLoopsLaw. -/
import Derived.Test.YtleehhpodgbomaaGreatDoorCt11
import Derived.IntWalk
import Derived.Test.YtleehhpodgbomaaGreatDoorCt1
import Derived.Test.YtleehhpodgbomaaGreatDoorCt2
import Derived.Test.YtleehhpodgbomaaGreatDoorCt3
import Derived.Test.YtleehhpodgbomaaGreatDoorCt4
import Derived.Test.YtleehhpodgbomaaGreatDoorCt5
import Derived.Test.YtleehhpodgbomaaGreatDoorCt6
import Derived.Test.YtleehhpodgbomaaGreatDoorCt7
import Derived.Test.YtleehhpodgbomaaGreatDoorCt8
import Derived.Test.YtleehhpodgbomaaGreatDoorCt9
import Derived.Test.YtleehhpodgbomaaGreatDoorCt10
/- ChainLoops, walked. -/
namespace Go.Proofs.YtleehhpodgbomaaGreatDoor
open Go.RowKit Go.MapKept
namespace Chn
open Vol (Vo Up Kq Hb hb_new hb_grown hb_apart Ov Pl gn gs dv rawW rawW_len)

/-! Slots written one behind the other, of no program. -/
/-- the code of the next one: the last one's is b, or none's -/
def cd (k b s : Nat) : Nat := if s + 1 = k then (if b = k then 65535 else b) else s + 1
def al (W : List Nat) (o k b : Nat) : Nat → List Nat
  | 0 => W
  | s + 1 => (al W o k b s).set (o + s) (Slo.wd s 1 (cd k b s))
theorem al_len (W : List Nat) (o k b : Nat) : ∀ s, (al W o k b s).length = W.length
  | 0 => rfl
  | s + 1 => by unfold al; rw [List.length_set, al_len W o k b s]
theorem al_at {W : List Nat} {o k b : Nat} : ∀ {s : Nat}, o + s ≤ W.length → ∀ {j : Nat}, j < s → (al W o k b s)[o + j]?.getD 0 = Slo.wd j 1 (cd k b j)
  | 0, _, j, hj => by omega
  | s + 1, hs, j, hj => by
    unfold al
    by_cases e : j = s
    · subst e
      rw [List.getElem?_set_self (by rw [al_len]; omega), Option.getD_some]
    · rw [List.getElem?_set_ne (by omega)]
      exact al_at (by omega) (by omega)
theorem cd_lt {k b s : Nat} (hk : k ≤ 20) (hb : b ≤ k) (hs : s < k) : cd k b s < 65536 := by unfold cd; split <;> (try split) <;> omega
theorem cd_may {k b s : Nat} (hk : k ≤ 20) (hb : b ≤ k) (hs : s < k) : Slo.may (s : Int) ((1 : Nat) : Int) (Slo.nx (cd k b s)) = true := by
  refine Slo.may_iff.2 ?_
  unfold Slo.May Slo.nx cd
  split <;> split <;> (try split) <;> omega
/-- the part of a number -/
def lp (k b s : Nat) : Pt := ⟨s, s, 1, cd k b s⟩
theorem al_pat {W : List Nat} {o k b N : Nat} (hk : k ≤ 20) (hb : b ≤ k) (hN : k ≤ N) (hW : o + k ≤ W.length) {j : Nat} (hj : j < k) : pat (fw (al W o k b k) o) N (j : Int) = some (lp k b j) := by
  refine pat_yes (x := j) (c := 1) (q := cd k b j) ?_ (by omega) (by omega)
  unfold fw
  rw [al_at hW hj]
  exact Slo.dec_wd (cd_may hk hb hj)
theorem al_path {W : List Nat} {o k b N : Nat} (hk : k ≤ 20) (hb : b ≤ k) (hN : k ≤ N) (hW : o + k ≤ W.length) : ∀ {s : Nat}, s < k → Path (pat (fw (al W o k b k) o) N) 0 ((List.range s).map (lp k b)) (s : Int)
  | 0, _ => rfl
  | s + 1, hs => by
    rw [List.range_succ, List.map_append]
    have e : ((s + 1 : Nat) : Int) = Slo.nx (lp k b s).q := by
      show _ = Slo.nx (cd k b s)
      unfold cd
      rw [if_neg (by omega), Slo.nx_some (by omega)]
    rw [e]
    exact path_snoc (al_path hk hb hN hW (by omega)) (by omega) (al_pat hk hb hN hW (by omega))
theorem al_full {W : List Nat} {o k b N : Nat} (hk : k ≤ 20) (h0 : 0 < k) (hb : b ≤ k) (hN : k ≤ N) (hW : o + k ≤ W.length) : Path (pat (fw (al W o k b k) o) N) 0 ((List.range k).map (lp k b)) (if b = k then -1 else (b : Int)) := by
  obtain ⟨s, rfl⟩ : ∃ s, k = s + 1 := ⟨k - 1, by omega⟩
  rw [List.range_succ, List.map_append]
  have e : (if b = s + 1 then -1 else (b : Int)) = Slo.nx (lp (s + 1) b s).q := by
    show _ = Slo.nx (cd (s + 1) b s)
    unfold cd
    rw [if_pos rfl]
    split
    · rfl
    · rw [Slo.nx_some (by omega)]
  rw [e]
  exact path_snoc (al_path hk hb hN hW (by omega)) (by omega) (al_pat hk hb hN hW (by omega))
theorem al_read {W : List Nat} {o k b N : Nat} (hk : k ≤ 20) (h0 : 0 < k) (hb : b ≤ k) (hN : k ≤ N) (hW : o + k ≤ W.length) : rd (pat (fw (al W o k b k) o) N) N 0 = if b = k then some ((List.range k).map (lp k b)) else none := by
  have hp := al_full hk h0 hb hN hW
  split
  · rename_i e
    rw [if_pos e] at hp
    exact rd_yes hp
  · rename_i e
    rw [if_neg e] at hp
    exact rd_back hp (p := lp k b b) (List.mem_map.2 ⟨b, List.mem_range.2 (by omega), rfl⟩) rfl N
theorem al_tot (k b : Nat) : tot ((List.range k).map (lp k b)) = k := by
  unfold tot
  rw [List.map_map]
  have : ∀ l : List Nat, (l.map (Pt.c ∘ lp k b)).sum = l.length := by
    intro l
    induction l with
    | nil => rfl
    | cons a l ih =>
      rw [List.map_cons, List.sum_cons, ih, List.length_cons]
      show 1 + l.length = _
      omega
  rw [this, List.length_range]

theorem set_one {Q : Nat → Prop} {w : World} {vb a n m s : Nat} {W : List Nat} {st sn : Nat} (h : Vo Q w vb a n m s W st sn) (q c : Nat) (z : Int) (hi : q < n) (hz : z = Slo.nx c) (hm : Slo.may (q : Int) ((1 : Nat) : Int) (Slo.nx c) = true) (hs : st + 2 < 100000000000) :
    Calls Tryz.prog 24 #[.pointer (some ⟨vb, 0, none⟩), .int .i64 (q : Int), .agg #[.int .i64 (q : Int), .int .i64 1, .int .i64 z]] w fun r w' =>
      r = .returned (.int .i64 0) ∧ Vo Q w' vb a n m s (W.set (16 + m * 8 + q) (Slo.wd q 1 c)) (st + 2) (sn + 1) ∧ Kq Q w w' :=
  Vol.setSlot_yes h q q 1 c z hi hz hm hs
set_option maxHeartbeats 4000000 in
set_option maxRecDepth 100000 in
theorem loops_law (w : World) (hT : Bm.Tab w) (n0 bk x : Nat) (hn0 : n0 < 256) (hbk : bk < 256) (hx : x < 256) :
    Calls Tryz.prog 6 #[.int .u8 (n0 : Int), .int .u8 (bk : Int), .int .u8 (x : Int)] w fun r w' => r = .returned (.bool true) ∧ Below w.heap.size w w' := by
  obtain ⟨sl, bm, bk', E, hpl⟩ := Vol.pl_any x 1 0
  have HL := Lib.hid (fun w' (hb : Below w.heap.size w w') => lives_any w' (hT.below hb hT.lt))
  have HO := Lib.hid (fun w' => copen_any w' x 1 0 hx (by omega) (by omega) none 0 (ws := []) (Pack.wds_nil w' none) hpl)
  have hlen := rawW_len (ws := []) hpl
  have hat := hpl.at
  have hn20 := hpl.n20
  obtain ⟨n, hn⟩ : ∃ n, n = gn x := ⟨_, rfl⟩
  obtain ⟨m, hm⟩ : ∃ m, m = gn 1 := ⟨_, rfl⟩
  obtain ⟨s, hs⟩ : ∃ s, s = gs 0 := ⟨_, rfl⟩
  rw [← hn, ← hm, ← hs] at HO hlen hat
  rw [← hn] at hn20
  have HLEN := Lib.hid hlen
  have HAT := Lib.hid hat
  clear hn hm hs hpl hT hlen hat
  go_enter Tryz.func6, Tryz.ntmps6
  go_wp2_with fail
  refine (HL.out _ (Below.refl _ _)).mono ?_
  rintro e w1 ⟨rfl, hb⟩
  have HB1 := Lib.hid hb
  clear hb HL
  go_wp2_with fail
  refine (HO.out _).mono ?_
  rintro e w3 ⟨Q, vb, a, g, gc, rfl, hov⟩
  have hb4 := (Below.refl w3.heap.size w3).alloc (Nat.le_refl _) (.cells (dv n m s sl bm bk' E (.slice (some ⟨g, 0, none⟩) E gc)) 30)
  have HV4 := Lib.hid (hov.vo.keep hb4)
  have HQ := Lib.hid (show ∀ k, k < w.heap.size → Q k from fun k hk => hov.ql k (Nat.lt_of_lt_of_le hk HB1.out.size))
  have HB4 := Lib.hid ((HB1.out.trans (hov.below.mono HB1.out.size)).trans (hb4.mono (Nat.le_trans HB1.out.size hov.below.size)))
  have HX4 := Lib.hid (hb_new w3 (dv n m s sl bm bk' E (.slice (some ⟨g, 0, none⟩) E gc)) 30)
  clear hov hb4 HO HB1
  unfold dv at HV4 HB4 HX4 ⊢
  obtain ⟨j, hj⟩ : ∃ j, j = n0 % n := ⟨_, rfl⟩
  have hji : (n0 : Int) % (n : Int) = (j : Int) := by omega
  have hnz : ((n : Int) == 0) = false := beq_eq_false_iff_ne.2 (by omega)
  have hjn : j < n := by rw [hj]; exact Nat.mod_lt _ (by omega)
  clear hj
  obtain ⟨b, hb0⟩ : ∃ b, b = bk % (1 + j + 1) := ⟨_, rfl⟩
  have hbi : (bk : Int) % (1 + (j : Int) + 1) = (b : Int) := by rw [hb0]; push_cast; rfl
  have hbz : ((1 + (j : Int) + 1) == 0) = false := beq_eq_false_iff_ne.2 (by omega)
  have hbl : b ≤ 1 + j := by have : b < 1 + j + 1 := by rw [hb0]; exact Nat.mod_lt _ (by omega)
                             omega
  clear hb0
  go_wp2
  clear hji hnz
  go_loopw [31] (fun i wr => ∃ q : Nat, q ≤ 1 + j ∧ i = .int .i64 (q : Int) ∧ Vo Q wr vb a n m s (al (rawW n m s E []) (16 + m * 8) (1 + j) b q) (2 * q) q ∧ Below w.heap.size w wr) (fun i _ => 1 + j - (intOf i).toNat)
  case atStart => exact ⟨0, Nat.zero_le _, rfl, HV4.out, HB4.out⟩
  case round =>
    obtain ⟨q, hq, rfl, hv, hb⟩ := hrel
    by_cases hqk : q < 1 + j
    · have hqi : (q : Int) < 1 + (j : Int) := by omega
      have hq1 : decide ((q : Int) < 1 + (j : Int)) = true := decide_eq_true hqi
      by_cases h1 : q + 1 = 1 + j
      · have h1e : (((q : Int) + 1) == 1 + (j : Int)) = true := by rw [beq_iff_eq]; omega
        by_cases h2 : b = 1 + j
        · have h2e : ((b : Int) == 1 + (j : Int)) = true := by rw [beq_iff_eq]; omega
          have hcd : (-1 : Int) = Slo.nx (cd (1 + j) b q) := by unfold cd; rw [if_pos h1, if_pos h2]; rfl
          have HSET := Lib.hid (set_one hv q (cd (1 + j) b q) (-1) (by omega) hcd (cd_may (by omega) (by omega) (by omega)) (by omega))
          have HB := Lib.hid hb
          clear hv hb hcd h1 h2
          go_wp2_with fail
          refine HSET.out.mono ?_
          rintro e w6 ⟨rfl, hv6, hk6⟩
          have HV6 := Lib.hid hv6
          have HB6 := Lib.hid (HB.out.trans (hk6.below HB.out.size HQ.out))
          clear hv6 hk6 HSET
          go_wp2
          exact ⟨⟨q + 1, by omega, by go_num, by rw [show 2 * (q + 1) = 2 * q + 2 by omega]; exact HV6.out, HB6.out⟩, by simp [intOf]; omega⟩
        · have h2e : ((b : Int) == 1 + (j : Int)) = false := beq_eq_false_iff_ne.2 (by omega)
          have hcd : (b : Int) = Slo.nx (cd (1 + j) b q) := by unfold cd; rw [if_pos h1, if_neg h2, Slo.nx_some (by omega)]
          have HSET := Lib.hid (set_one hv q (cd (1 + j) b q) ((b : Int)) (by omega) hcd (cd_may (by omega) (by omega) (by omega)) (by omega))
          have HB := Lib.hid hb
          clear hv hb hcd h1 h2
          go_wp2_with fail
          refine HSET.out.mono ?_
          rintro e w6 ⟨rfl, hv6, hk6⟩
          have HV6 := Lib.hid hv6
          have HB6 := Lib.hid (HB.out.trans (hk6.below HB.out.size HQ.out))
          clear hv6 hk6 HSET
          go_wp2
          exact ⟨⟨q + 1, by omega, by go_num, by rw [show 2 * (q + 1) = 2 * q + 2 by omega]; exact HV6.out, HB6.out⟩, by simp [intOf]; omega⟩
      · have h1e : (((q : Int) + 1) == 1 + (j : Int)) = false := beq_eq_false_iff_ne.2 (by omega)
        have hcd : (q : Int) + 1 = Slo.nx (cd (1 + j) b q) := by unfold cd; rw [if_neg h1, Slo.nx_some (by omega)]; omega
        have HSET := Lib.hid (set_one hv q (cd (1 + j) b q) ((q : Int) + 1) (by omega) hcd (cd_may (by omega) (by omega) (by omega)) (by omega))
        have HB := Lib.hid hb
        clear hv hb hcd h1
        go_wp2_with fail
        refine HSET.out.mono ?_
        rintro e w6 ⟨rfl, hv6, hk6⟩
        have HV6 := Lib.hid hv6
        have HB6 := Lib.hid (HB.out.trans (hk6.below HB.out.size HQ.out))
        clear hv6 hk6 HSET
        go_wp2
        exact ⟨⟨q + 1, by omega, by go_num, by rw [show 2 * (q + 1) = 2 * q + 2 by omega]; exact HV6.out, HB6.out⟩, by simp [intOf]; omega⟩
    · obtain rfl : q = 1 + j := by omega
      have hq1 : decide (((1 + j : Nat) : Int) < 1 + (j : Int)) = false := decide_eq_false (by omega)
      have hrd := al_read (W := rawW n m s E []) (o := 16 + m * 8) (k := 1 + j) (b := b) (N := n) (by omega) (by omega) hbl (by omega) (by rw [HLEN.out]; have := HAT.out; omega)
      have h1 := read_any hv 0
      unfold RdTo at h1
      rw [hrd] at h1
      have HB := Lib.hid hb
      clear hb hv hrd
      by_cases h2 : b = 1 + j
      · rw [if_pos h2] at h1
        simp only at h1
        obtain ⟨L, hL⟩ : ∃ L, L = (List.range (1 + j)).map (lp (1 + j) b) := ⟨_, rfl⟩
        have hmy : Mays L := by
          rw [hL]
          intro p hp
          obtain ⟨q, hq, rfl⟩ := List.mem_map.1 hp
          exact cd_may (by omega) hbl (List.mem_range.1 hq)
        have htt : tot L = 1 + j := by rw [hL]; exact al_tot _ _
        have hll : L.length = 1 + j := by rw [hL]; simp
        rw [← hL] at h1
        have H1 := Lib.hid h1
        have HMY := Lib.hid hmy
        have HTT := Lib.hid (show ((tot L : Nat) : Int) = 1 + (j : Int) by rw [htt]; omega)
        have HLL := Lib.hid hll
        have h2e : ((b : Int) == 1 + (j : Int)) = true := by rw [beq_iff_eq]; omega
        clear h1 hL hmy htt hll h2
        go_wp2_with fail
        refine H1.out.mono ?_
        rintro e w7 ⟨A8, c8, B8, d8, rfl, hn8, hp8, hc8, hd8, hb8⟩
        have HCN := Lib.hid (fun w' (hb : Below w7.heap.size w7 w') => count_any w' A8 B8 L.length c8 d8 L (hp8.keep hb) HMY.out (by rw [HLL.out]; omega))
        rw [HTT.out] at HCN
        have HB8 := Lib.hid (HB.out.trans (hb8.mono HB.out.size))
        clear hn8 hp8 hc8 hd8 hb8 H1
        go_wp2_with fail
        have hal := (Below.refl w7.heap.size w7).alloc (Nat.le_refl _) (.cells #[.slice A8 L.length c8, .slice B8 L.length d8] 36)
        refine (HCN.out _ hal).mono ?_
        rintro e w9 ⟨rfl, hb9⟩
        have HB9 := Lib.hid ((HB8.out.trans (hal.mono HB8.out.size)).trans (hb9.mono (Nat.le_trans HB8.out.size hal.size)))
        clear hb9 hal
        go_wp2
        go_ret
        exact ⟨rfl, HB9.out⟩
      · rw [if_neg h2] at h1
        simp only at h1
        have H1 := Lib.hid h1
        have h2e : ((b : Int) == 1 + (j : Int)) = false := beq_eq_false_iff_ne.2 (by omega)
        have HCN := Lib.hid (fun w' => show Calls Tryz.prog 17 #[.agg #[.slice none 0 0, .slice none 0 0]] w' fun r w'' => r = .returned (.int .i64 0) ∧ Below w'.heap.size w' w'' from count_any w' none none 0 0 0 [] ⟨fun j h => by simp at h⟩ (fun p hp => by cases hp) (by simp))
        clear h1 h2
        go_wp2_with fail
        refine H1.out.mono ?_
        rintro e w7 ⟨rfl, hb8⟩
        have HB8 := Lib.hid (HB.out.trans (hb8.mono HB.out.size))
        clear hb8 H1
        go_wp2_with fail
        have hal := (Below.refl w7.heap.size w7).alloc (Nat.le_refl _) (.cells #[.slice none 0 0, .slice none 0 0] 36)
        have HX9 := Lib.hid (hb_new w7 #[.slice none 0 0, .slice none 0 0] 36)
        refine (HCN.out _).mono ?_
        rintro e w9 ⟨rfl, hb9⟩
        have HB9 := Lib.hid ((HB8.out.trans (hal.mono HB8.out.size)).trans (hb9.mono (Nat.le_trans HB8.out.size hal.size)))
        have x0 := (HX9.out.keep hb9).cell 0
        have xl := (HX9.out.keep hb9).lt
        clear hb9 hal
        go_wp2
        go_ret
        exact ⟨rfl, HB9.out⟩
end Chn
end Go.Proofs.YtleehhpodgbomaaGreatDoor
