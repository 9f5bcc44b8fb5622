/- Texts laid together: ChnLawMay, ChnWritesLaw, ChnArgs. -/
import Derived.Test.YtleehhpodgbomaaGreatDoorCt10
import Derived.Test.YtleehhpodgbomaaGreatDoorCt11
import Derived.IntWalk
import Derived.Test.YtleehhpodgbomaaGreatDoorCt1
import Derived.Test.YtleehhpodgbomaaGreatDoorCt2
import Derived.Test.YtleehhpodgbomaaGreatDoorCt3
import Derived.Test.YtleehhpodgbomaaGreatDoorCt4
import Derived.Test.YtleehhpodgbomaaGreatDoorCt5
import Derived.Test.YtleehhpodgbomaaGreatDoorCt6
import Derived.Test.YtleehhpodgbomaaGreatDoorCt7
import Derived.Test.YtleehhpodgbomaaGreatDoorCt8
import Derived.Test.YtleehhpodgbomaaGreatDoorCt9
import Derived.Test.YtleehhpodgbomaaGreatDoorCl1
import Derived.Test.YtleehhpodgbomaaGreatDoorCr1
/- Law 16's may: as the program's own. -/
namespace Go.Proofs.YtleehhpodgbomaaGreatDoor
open Go.RowKit Go.MapKept
namespace Chn
theorem nts_upto (A : Option Addr) (n c q : Nat) (hq : q ≤ n) (hn : n ≤ c) : ∃ B : Option Addr, (∀ W, (Instr.slice 33 (.slice A n c) none (some (.int .i64 (q : Int))) none).run Tryz.prog W = .ok (.slice B q c) W) ∧ ∀ W (l : List Int), l.length = n → Pack.Nts W A l → Pack.Nts W B (l.take q) := by
  refine ⟨if c = 0 then A else A.map (·.add 0), fun W => ?_, fun W l hl hb => ?_⟩
  · rw [run_slice_h _ _ _ _ _ und_ints .i64 (q : Int) (by omega) (by omega), size_int]
    simp [sliced]
  · refine ⟨fun x hx => hb.i64 x (List.mem_of_mem_take hx), by rw [List.length_take]; have := hb.len; omega, fun j hj => ?_⟩
    rw [List.length_take] at hj
    obtain ⟨b, o, rfl, h1, h2⟩ := hb.at' j (by omega)
    refine ⟨b, o, ?_, h1, ?_⟩
    · rw [if_neg (by omega), Option.map_some, Go.WideShapes.add_plain, Nat.add_zero]
    · rw [List.getElem_take]
      exact h2
/-- so far it isn't met -/
def Nq (l : List Int) (s : Int) (t : Nat) : Prop := ∀ k (h : k < l.length), k < t → l[k] ≠ s
theorem Nq.next {l : List Int} {s : Int} {t : Nat} (h : Nq l s t) (ht : t < l.length) (hz : l[t] ≠ s) : Nq l s (t + 1) := fun k hk hkt => by
  rcases Nat.lt_or_ge k t with h1 | h1
  · exact h k hk h1
  · obtain rfl : k = t := by omega
    exact hz
theorem Nq.all {l : List Int} {s : Int} {t : Nat} (h : Nq l s t) (ht : l.length ≤ t) : s ∉ l := fun k => by
  obtain ⟨i, hi, e⟩ := List.getElem_of_mem k
  exact h i hi (by omega) e
set_option maxHeartbeats 2000000 in
set_option maxRecDepth 100000 in
theorem lmay_any (w : World) (n : Nat) (hn : n ≤ 1000000) (A B : Option Addr) (c d : Nat) (ss : List Int) (rs : List (Int × Int)) (hs : Pack.Nts w A ss) (hr : Prs w B rs) (hc : ss.length ≤ c) :
    Calls Tryz.prog 19 #[.slice A ss.length c, .slice B rs.length d, .int .i64 (n : Int)] w fun r w' => r = .returned (.bool (mayW n ss rs)) ∧ Below w.heap.size w w' := by
  obtain ⟨M, hM⟩ : ∃ M, M = mayW n ss rs := ⟨_, rfl⟩
  rw [← hM]
  have HM := Lib.hid hM
  have HS := Lib.hid hs
  have HR := Lib.hid hr
  have hsl := hs.len
  have hrl := hr.len
  clear hM hs hr
  go_enter Tryz.func19, Tryz.ntmps19
  by_cases hlen : ss.length = rs.length
  · go_wp2
    have HL := Lib.hid hlen
    clear hlen
    go_loopw [19] (fun i wr => ∃ m : Nat, m ≤ ss.length ∧ i = .int .i64 (m : Int) ∧ Good n ss rs m ∧ Below w.heap.size w wr) (fun i _ => ss.length - (intOf i).toNat)
    case atStart => exact ⟨0, Nat.zero_le _, rfl, Good.zero .., Below.refl _ _⟩
    case round =>
      obtain ⟨m, hm, rfl, hgd, hb⟩ := hrel
      have HG := Lib.hid hgd
      clear hgd
      by_cases hlt : m < ss.length
      · have hlr : m < rs.length := by have := HL.out; omega
        obtain ⟨b, o, rfl, hbb, hc0⟩ := HS.out.at' m hlt
        obtain ⟨b2, o2, rfl, hbb2, hd0, hd1⟩ := HR.out.at' m hlr
        obtain ⟨B6, hs1, hs2⟩ := nts_upto (some ⟨b, o, none⟩) ss.length c m (by omega) hc
        have HS2 := Lib.hid (hs2 w ss rfl HS.out)
        have hal := (Below.refl wr.heap.size wr).alloc (Nat.le_refl _) (.cells #[.int .i64 rs[m].1, .int .i64 rs[m].2] 59)
        have hxx := Vol.hb_new wr #[.int .i64 rs[m].1, .int .i64 rs[m].2] 59
        have hc0 := (hb.cell (p := ⟨b, o + m, none⟩) hbb).trans hc0
        have hd0 := (hb.cell (p := ⟨b2, o2 + m * 2, none⟩) hbb2).trans hd0
        have hd1 := (hb.cell (p := ⟨b2, o2 + m * 2 + 1, none⟩) hbb2).trans hd1
        have hbb := Nat.lt_of_lt_of_le hbb hb.size
        have hbb2 := Nat.lt_of_lt_of_le hbb2 hb.size
        have HI := Lib.hid (HR.out.i64 rs[m] (List.getElem_mem hlr))
        have HBAD := Lib.hid (fun h => show mayW n ss rs = false from bad (n := n) hlt hlr h)
        have HNX := Lib.hid (HG.out.next hlt hlr)
        have HBW := Lib.hid (hb.trans (hal.mono hb.size))
        have m0 := hxx.cell 0
        have m1 := hxx.cell 1
        have ml := hxx.lt
        clear hxx
        obtain ⟨s, hs⟩ : ∃ s, s = ss[m] := ⟨_, rfl⟩
        obtain ⟨x, hx⟩ : ∃ x, x = rs[m].1 := ⟨_, rfl⟩
        obtain ⟨y, hy⟩ : ∃ y, y = rs[m].2 := ⟨_, rfl⟩
        rw [← hs] at hc0 HBAD HNX
        rw [← hx] at hd0 HI HBAD HNX m0 m1 ml HBW
        rw [← hy] at hd1 HI HBAD HNX m0 m1 ml HBW
        clear hs hx hy hb hal hs2
        have HW := Lib.hid (show win n x y = decide (1 ≤ y ∧ 0 ≤ x ∧ x ≤ (n : Int) - y) from rfl)
        generalize win n x y = wn at *
        have mi : (m : Int) < (ss.length : Int) := by omega
        have mr : (m : Int) < (rs.length : Int) := by omega
        rcases Int.lt_or_le s 0 with h0 | h0
        · have HN := Lib.hid (show M = false by rw [HM.out]; exact HBAD.out (.inl h0))
          go_wp2
          go_ret
          exact ⟨by rw [HN.out]; rfl, HBW.out⟩
        rcases Int.lt_or_le s (n : Int) with h1 | h1
        rotate_left
        · have HN := Lib.hid (show M = false by rw [HM.out]; exact HBAD.out (.inr (.inl h1)))
          go_wp2
          go_ret
          exact ⟨by rw [HN.out]; rfl, HBW.out⟩
        rcases Int.lt_or_le x 0 with h2 | h2
        · have HN := Lib.hid (show M = false by rw [HM.out]; exact HBAD.out (.inr (.inr (.inr (by rw [HW.out]; exact decide_eq_false (by omega))))))
          go_wp2
          go_ret
          exact ⟨by rw [HN.out]; rfl, HBW.out⟩
        rcases Int.lt_or_le x (n : Int) with h3 | h3
        rotate_left
        · have HN := Lib.hid (show M = false by rw [HM.out]; by_cases hy1 : 1 ≤ y <;> exact HBAD.out (.inr (.inr (.inr (by rw [HW.out]; exact decide_eq_false (by omega))))))
          go_wp2
          go_ret
          exact ⟨by rw [HN.out]; rfl, HBW.out⟩
        rcases Int.lt_or_le y 1 with h4 | h4
        · have HN := Lib.hid (show M = false by rw [HM.out]; exact HBAD.out (.inr (.inr (.inr (by rw [HW.out]; exact decide_eq_false (by omega))))))
          go_wp2
          go_ret
          exact ⟨by rw [HN.out]; rfl, HBW.out⟩
        have hsub : IntKind.i64.wrap ((n : Int) - x) = (n : Int) - x := IntWalk.i64_in _ (by omega)
        rcases Int.lt_or_le ((n : Int) - x) y with h5 | h5
        · have HN := Lib.hid (show M = false by rw [HM.out]; exact HBAD.out (.inr (.inr (.inr (by rw [HW.out]; exact decide_eq_false (by omega))))))
          go_wp2
          go_ret
          exact ⟨by rw [HN.out]; rfl, HBW.out⟩
        have hw : wn = true := by rw [HW.out]; exact decide_eq_true (by omega)
        have HNY := Lib.hid (fun k => HNX.out h0 h1 k hw)
        have HBY := Lib.hid (fun k => HBAD.out (.inr (.inr (.inl k))))
        go_wp2
        clear h0 h1 h2 h3 h4 h5 hw hsub
        have HT := Lib.hid (HS2.out.keep (HBW.out))
        have htl : (ss.take m).length = m := by rw [List.length_take]; omega
        have HTL := Lib.hid htl
        clear htl hc0 hd0 hd1 m0 m1 ml hs1 HS2 HNX HBAD HW HI
        generalize wr.alloc (.cells #[.int .i64 x, .int .i64 y] 59) = w1 at *
        generalize wr.heap.size = b3 at *
        clear wr
        go_loopw [64] (fun i wq => ∃ t : Nat, t ≤ m ∧ i = .int .i64 (t : Int) ∧ wq = w1 ∧ Nq (ss.take m) s t) (fun i _ => m - (intOf i).toNat)
        case atStart => exact ⟨0, Nat.zero_le _, rfl, rfl, fun k _ h => by omega⟩
        case round =>
          obtain ⟨t, ht, rfl, rfl, hno⟩ := hrel
          by_cases htm : t < m
          · obtain ⟨b5, o5, rfl, hb5, hq5⟩ := HT.out.at' t (by rw [HTL.out]; exact htm)
            have hti : (t : Int) < (m : Int) := by omega
            have HMEM := Lib.hid (List.getElem_mem (l := ss.take m) (n := t) (by rw [HTL.out]; exact htm))
            have HNE := Lib.hid (hno.next (by rw [HTL.out]; exact htm))
            clear hno
            generalize (ss.take m)[t]'(by rw [HTL.out]; exact htm) = z at *
            by_cases hz : z = s
            · subst hz
              have HN := Lib.hid (show M = false by rw [HM.out]; exact HBY.out HMEM.out)
              go_wp2
              go_ret
              exact ⟨by rw [HN.out]; rfl, HBW.out⟩
            · have hz2 : (s == z) = false := by simp; exact fun e => hz e.symm
              have hz3 : ¬ s = z := fun e => hz e.symm
              go_wp2
              exact ⟨⟨t + 1, by omega, by go_num, by first | rfl | trivial, HNE.out hz⟩, by simp [intOf]; omega⟩
          · obtain rfl : t = m := by omega
            have HG2 := Lib.hid (HNY.out (hno.all (by rw [HTL.out]; omega)))
            clear hno
            go_wp2
            exact ⟨⟨t + 1, by omega, by go_num, HG2.out, HBW.out⟩, by simp [intOf]; omega⟩
      · obtain rfl : m = ss.length := by omega
        have HN := Lib.hid (show M = true by rw [HM.out]; exact HG.out.all HL.out)
        have hnl : decide ((ss.length : Int) < (rs.length : Int)) = false := decide_eq_false (by have := HL.out; omega)
        have hnl2 : ¬ (ss.length : Int) < (rs.length : Int) := by have := HL.out; omega
        have HBW := Lib.hid hb
        clear hb hlt hm
        go_wp2
        go_ret
        exact ⟨by rw [HN.out]; rfl, HBW.out⟩
  · have HN := Lib.hid (show M = false by rw [HM.out]; exact decide_eq_false (fun h => hlen h.1))
    have hne : ((ss.length : Int) != (rs.length : Int)) = true := by simp; omega
    have hne2 : ¬ (ss.length : Int) = (rs.length : Int) := by omega
    clear hlen
    go_wp2
    go_ret
    exact ⟨by rw [HN.out]; rfl, Below.refl _ _⟩
end Chn
end Go.Proofs.YtleehhpodgbomaaGreatDoor
/- ChainWrites, walked. -/
namespace Go.Proofs.YtleehhpodgbomaaGreatDoor
open Go.RowKit Go.MapKept
namespace Chn
open Vol (Vo Up Kq Hb hb_new hb_grown hb_apart Ov Pl gn gs dv rawW rawW_len)
/-- what was told of a word so far: it is no slot's -/
def Iq (S : List Nat) (b t : Nat) (ib : Bool) (j : Nat) : Prop := ib = false → ∀ k (h : k < S.length), k < j → t ≠ b + S[k]
theorem Iq.next {S : List Nat} {b t j : Nat} {ib : Bool} (h : Iq S b t ib j) (hj : j < S.length) : (ib = true → Iq S b t true (j + 1)) ∧ (t ≠ b + S[j] → Iq S b t ib (j + 1)) :=
  ⟨fun _ h2 => (by cases h2), fun hne h0 k hk hkj => by
    rcases Nat.lt_or_ge k j with h1 | h1
    · exact h h0 k hk h1
    · obtain rfl : k = j := by omega
      exact hne⟩
theorem Iq.all {S : List Nat} {b t j : Nat} (h : Iq S b t false j) (hj : S.length ≤ j) : ∀ s ∈ S, t ≠ b + s := fun s hs => by
  obtain ⟨k, hk, rfl⟩ := List.getElem_of_mem hs
  exact h rfl k hk (by omega)
theorem slots_pts {S : List Nat} {R : List (Nat × Nat)} : slots (pts S R) = S.map Int.ofNat := by
  refine List.ext_getElem (by simp [slots, pts]) (fun i h1 h2 => ?_)
  have h3 : i < S.length := by simpa using h2
  simp [slots, pts, pk, h3]
theorem runs_pts {S : List Nat} {R : List (Nat × Nat)} (h : R.length = S.length) : (pts S R).map (fun p => ((p.x : Int), (p.c : Int))) = R.map (fun r : Nat × Nat => ((r.1 : Int), (r.2 : Int))) := by
  refine List.ext_getElem (by simp [pts, h]) (fun i h1 h2 => ?_)
  have h3 : i < R.length := by simpa using h2
  simp [pts, pk, h3]
section
variable {ws : List Nat}
set_option maxHeartbeats 4000000 in
set_option maxRecDepth 100000 in
theorem writes_law (w : World) (hT : Bm.Tab w) (x y k : Nat) (hx : x < 256) (hy : y < 256) (hk : k < 256) (A : Option Addr) (c : Nat) (hws : Pack.Wds w A ws) (B D : Option Addr) (cs cr : Nat) (ss : List Int) (rs : List (Int × Int)) (hns : Pack.Nts w B ss) (hcs : ss.length ≤ cs) (hpr : Prs w D rs) :
    Calls Tryz.prog 5 #[.agg #[.int .u8 (x : Int), .int .u8 (y : Int), .int .u8 (k : Int), .slice A ws.length c], .slice B ss.length cs, .slice D rs.length cr] w fun r w' => r = .returned (.bool true) ∧ Below w.heap.size w w' := by
  obtain ⟨sl, bm, bk, E, hpl⟩ := Vol.pl_any x y k
  have HL := Lib.hid (fun w' (hb : Below w.heap.size w w') => lives_any w' (hT.below hb hT.lt))
  have HO := Lib.hid (fun w' (hb : Below w.heap.size w w') => copen_any w' x y k hx hy hk A c (hws.keep hb) hpl)
  have hn20 := hpl.n20
  have hat := hpl.at
  have HPL := Lib.hid hpl
  have HNS := Lib.hid hns
  have HPR := Lib.hid hpr
  have hsl := hns.len
  have hrl := hpr.len
  obtain ⟨n, hn⟩ : ∃ n, n = gn x := ⟨_, rfl⟩
  obtain ⟨m, hm⟩ : ∃ m, m = gn y := ⟨_, rfl⟩
  obtain ⟨s, hs⟩ : ∃ s, s = gs k := ⟨_, rfl⟩
  rw [← hn, ← hm, ← hs] at HO HPL hat
  rw [← hn] at hn20
  have HAT := Lib.hid hat
  clear hn hm hs hpl hT hws hat hns hpr
  go_enter Tryz.func5, Tryz.ntmps5
  have HB0 := Lib.hid ((Below.refl w.heap.size w).alloc (Nat.le_refl _) (.cells #[.int .u8 (x : Int), .int .u8 (y : Int), .int .u8 (k : Int), .slice A ws.length c] 24))
  have HR0 := Lib.hid (hb_new w #[.int .u8 (x : Int), .int .u8 (y : Int), .int .u8 (k : Int), .slice A ws.length c] 24)
  go_wp2_with fail
  generalize w.alloc (.cells #[.int .u8 (x : Int), .int .u8 (y : Int), .int .u8 (k : Int), .slice A ws.length c] 24) = w0 at *
  refine (HL.out _ HB0.out).mono ?_
  rintro e w1 ⟨rfl, hb⟩
  have HB1 := Lib.hid (HB0.out.trans (hb.mono HB0.out.size))
  have HR1 := HR0.out.keep hb
  clear hb HB0 HR0
  have r0 := HR1.cell 0
  have r1 := HR1.cell 1
  have r2 := HR1.cell 2
  have r3 := HR1.cell 3
  have rl := HR1.lt
  clear HR1
  have hmany : ss.length ≤ 30 → rs.length ≤ 30 → True := fun _ _ => trivial
  rcases Nat.lt_or_ge 30 ss.length with h1 | h1
  · have h1i : (30 : Int) < (ss.length : Int) := by omega
    go_wp2_with fail
    refine (HL.out _ HB1.out).mono ?_
    rintro e w2 ⟨rfl, hb⟩
    have HB2 := Lib.hid (HB1.out.trans (hb.mono HB1.out.size))
    clear hb
    go_wp2
    go_ret
    exact ⟨rfl, HB2.out⟩
  have h1i : (ss.length : Int) ≤ 30 := by omega
  rcases Nat.lt_or_ge 30 rs.length with h2 | h2
  · have h2i : (30 : Int) < (rs.length : Int) := by omega
    go_wp2_with fail
    refine (HL.out _ HB1.out).mono ?_
    rintro e w2 ⟨rfl, hb⟩
    have HB2 := Lib.hid (HB1.out.trans (hb.mono HB1.out.size))
    clear hb
    go_wp2
    go_ret
    exact ⟨rfl, HB2.out⟩
  have h2i : (rs.length : Int) ≤ 30 := by omega
  clear hmany
  go_wp2_with fail
  refine (HO.out _ HB1.out).mono ?_
  rintro e w3 ⟨Q, vb, a, g, gc, rfl, hov⟩
  clear r0 r1 r2 r3 rl HO
  have HB3 := Lib.hid (HB1.out.trans (hov.below.mono HB1.out.size))
  have HQW := Lib.hid (show ∀ k, k < w.heap.size → Q k from fun k hk => hov.ql k (Nat.lt_of_lt_of_le hk HB1.out.size))
  have HQG := Lib.hid hov.qg
  have HLN := Lib.hid hov.len
  have hb4 := (Below.refl w3.heap.size w3).alloc (Nat.le_refl _) (.cells (dv n m s sl bm bk E (.slice (some ⟨g, 0, none⟩) E gc)) 30)
  have HX4 := Lib.hid (hb_new w3 (dv n m s sl bm bk E (.slice (some ⟨g, 0, none⟩) E gc)) 30)
  have HV4 := Lib.hid (hov.vo.grow hb4)
  have HD4 := Lib.hid (hov.wds.keep hb4)
  have HB4 := Lib.hid (HB3.out.trans (hb4.mono HB3.out.size))
  clear hov hb4 HB3 HL
  unfold dv at HX4 HV4 HD4 HB4 ⊢
  go_wp2_with fail
  obtain ⟨Q4, hQ4⟩ : ∃ Q4 : Nat → Prop, Q4 = fun k => Q k ∨ (w3.heap.size ≤ k ∧ k < (w3.alloc (.cells #[.int .i64 (n : Int), .int .i64 (m : Int), .int .i64 (s : Int), .int .i64 16, .int .i64 (sl : Int), .int .i64 (bm : Int), .int .i64 (bk : Int), .int .i64 (E : Int), .slice (some ⟨g, 0, none⟩) E gc] 30)).heap.size) := ⟨_, rfl⟩
  rw [← hQ4] at HV4
  have HQ4 := Lib.hid (show Q4 w3.heap.size ∧ ∀ k, Q k → Q4 k by rw [hQ4]; exact ⟨.inr ⟨Nat.le_refl _, by simp⟩, fun k h => .inl h⟩)
  clear hQ4
  generalize w3.alloc (.cells #[.int .i64 (n : Int), .int .i64 (m : Int), .int .i64 (s : Int), .int .i64 16, .int .i64 (sl : Int), .int .i64 (bm : Int), .int .i64 (bk : Int), .int .i64 (E : Int), .slice (some ⟨g, 0, none⟩) E gc] 30) = w4 at *
  generalize w3.heap.size = b3 at *
  clear w3
  cases hmy : mayW n ss rs with
  | false =>
    refine (write_no HV4.out B D cs cr ss rs (HNS.out.keep HB4.out) (HPR.out.keep HB4.out) hmy).mono ?_
    rintro e w5 ⟨rfl, hb⟩
    have HV5 := Lib.hid (HV4.out.keep hb)
    have HX5 := Lib.hid (HX4.out.keep hb)
    have HB5 := Lib.hid (HB4.out.trans (hb.mono HB4.out.size))
    clear hb HV4 HX4 HB4 HD4
    have c0 := HX5.out.cell 0
    have cl := HX5.out.lt
    go_wp2_with fail
    have hlm := lmay_any w5 n (by omega) B D cs cr ss rs (HNS.out.keep HB5.out) (HPR.out.keep HB5.out) hcs
    rw [hmy] at hlm
    refine hlm.mono ?_
    rintro e w6 ⟨rfl, hb⟩
    have HV6 := Lib.hid (HV5.out.keep hb)
    have HB6 := Lib.hid (HB5.out.trans (hb.mono HB5.out.size))
    clear hb hlm HV5 HX5 HB5 c0 cl
    go_wp2_with fail
    refine (Vol.device_any HV6.out).mono ?_
    rintro e w7 ⟨rfl, rfl⟩
    go_wp2_with fail
    refine (Vol.up_steps HV6.out.up).mono ?_
    rintro e w8 ⟨rfl, rfl⟩
    go_wp2
    go_ret
    exact ⟨rfl, HB6.out⟩
  | true =>
    obtain ⟨S, R, hse, hre, hwr⟩ := wr_of (by omega) hmy
    have hSl : S.length = ss.length := by rw [hse, List.length_map]
    have hRl : R.length = rs.length := by rw [hre, List.length_map]
    have hlen : rs.length = ss.length := by rw [← hSl, ← hRl]; exact hwr.len
    have hwy := write_yes HV4.out B D cs cr S R (by rw [← hse]; exact HNS.out.keep HB4.out) (by rw [← hre]; exact HPR.out.keep HB4.out) hwr (fun x hx h0 => by
      have h3 : 0 < ss.length := by rw [← hSl]; exact List.length_pos_iff.2 h0
      obtain ⟨b, o, e, hlt, _⟩ := HNS.out.at' 0 h3
      rw [e] at hx
      cases hx
      exact HQ4.out.2 _ (HQW.out _ hlt)) (fun x hx h0 => by
      have h3 : 0 < rs.length := by rw [← hRl]; exact List.length_pos_iff.2 h0
      obtain ⟨b, o, e, hlt, _⟩ := HPR.out.at' 0 h3
      rw [e] at hx
      cases hx
      exact HQ4.out.2 _ (HQW.out _ hlt)) (by omega)
    rw [hSl, hRl] at hwy
    simp only [Nat.zero_add] at hwy
    have hrr := wk_read (W := rawW n m s E ws) (b := 16 + m * 8) hwr (by have := HAT.out; rw [HLN.out]; omega)
    rw [hSl] at hrr
    have hel : ∀ i, (∀ s ∈ S, i ≠ 16 + m * 8 + s) → (wk (rawW n m s E ws) (16 + m * 8) S R ss.length)[i]? = (rawW n m s E ws)[i]? := fun i hi => wk_else hwr hi (by omega)
    have hwl : (wk (rawW n m s E ws) (16 + m * 8) S R ss.length).length = E := by rw [wk_len, HLN.out]
    have hSn : ∀ j (h : j < ss.length), ∃ h2 : j < S.length, ss[j] = (S[j] : Int) ∧ S[j] < n := fun j h => ⟨by omega, by simp [hse], hwr.slot _ (List.getElem_mem _)⟩
    have hsp : slots (pts S R) = ss := by rw [hse]; exact slots_pts
    have hrp : (pts S R).map (fun p => ((p.x : Int), (p.c : Int))) = rs := by rw [hre]; exact runs_pts hwr.len
    have hpl : (pts S R).length = ss.length := by rw [pts_len, hSl]
    have hmp : Mays (pts S R) := mays_pts hwr
    have hh0 : ∀ h : 0 < ss.length, hd S 0 = ss[0] := fun h => by
      obtain ⟨h2, h3, _⟩ := hSn 0 h
      rw [hd_some hwr h2, h3]
    have hh1 : ss.length = 0 → hd S 0 = -1 := fun h => hd_none (by omega)
    clear hse hre
    generalize hU : wk (rawW n m s E ws) (16 + m * 8) S R ss.length = U at *
    generalize pts S R = l at *
    generalize hd S 0 = hh at *
    have HRR := Lib.hid hrr
    have HEL := Lib.hid hel
    have HWL := Lib.hid hwl
    have HSN := Lib.hid hSn
    have HSP := Lib.hid hsp
    have HRP := Lib.hid hrp
    have HPN := Lib.hid hpl
    have HMP := Lib.hid hmp
    have HSL := Lib.hid hSl
    have HRL := Lib.hid hRl
    have HLE := Lib.hid hlen
    clear hU hwr hSl hRl hlen hrr hel hwl hSn hsp hrp hpl hmp
    refine hwy.mono ?_
    rintro e w5 ⟨rfl, hv5, hk5⟩
    have HV5 := Lib.hid hv5
    have HX5 := Lib.hid (HX4.out.kq hk5 HQ4.out.1)
    have HD5 := Lib.hid (show Pack.Wds w5 (some ⟨g, 0, none⟩) (rawW n m s E ws) from Vol.wds_block HD4.out (hk5.at (HQ4.out.2 _ HQG.out) (HV4.out.up.lt _ (HQ4.out.2 _ HQG.out))))
    have HB5 := Lib.hid (HB4.out.trans (hk5.below HB4.out.size (fun k hk => HQ4.out.2 _ (HQW.out k hk))))
    clear hv5 hk5 hwy HV4 HX4 HB4 HD4 HQ4 HQW HQG
    have c0 := HX5.out.cell 0
    have cl := HX5.out.lt
    go_wp2_with fail
    have hlm := lmay_any w5 n (by omega) B D cs cr ss rs (HNS.out.keep HB5.out) (HPR.out.keep HB5.out) hcs
    rw [hmy] at hlm
    refine hlm.mono ?_
    rintro e w6 ⟨rfl, hb⟩
    have HV6 := Lib.hid (HV5.out.keep hb)
    have HX6 := Lib.hid (HX5.out.keep hb)
    have HD6 := Lib.hid (HD5.out.keep hb)
    have HB6 := Lib.hid (HB5.out.trans (hb.mono HB5.out.size))
    clear hb hlm HV5 HX5 HB5 HD5 c0 cl hmy
    have hrd := read_any HV6.out hh
    unfold RdTo at hrd
    rw [HRR.out] at hrd
    simp only at hrd
    rw [HPN.out, HSP.out] at hrd
    have HRD := Lib.hid hrd
    clear hrd HRR
    rcases Nat.eq_zero_or_pos ss.length with h0 | h0
    · obtain rfl := (hh1 h0).symm
      have h0i : ¬ (0 : Int) < (ss.length : Int) := by omega
      have h0d : decide ((0 : Int) < (ss.length : Int)) = false := decide_eq_false (by omega)
      have h0e : decide (0 < ss.length) = false := decide_eq_false (by omega)
      clear hh0 hh1 h0
      have h0 : ¬ 0 < ss.length := of_decide_eq_false h0e
      go_wp2_with fail
      clear h0 h0i h0d h0e
      refine HRD.out.mono ?_
      rintro e w7 ⟨A5, c5, B5, d5, rfl, hn5, hp5, hc5, hd5, hb⟩
      have hal := (Below.refl w7.heap.size w7).alloc (Nat.le_refl _) (.cells #[.slice A5 ss.length c5, .slice B5 ss.length d5] 36)
      have hb8 := hb.trans (hal.mono hb.size)
      have HN8 := Lib.hid (hn5.keep hal)
      have HP8 := Lib.hid (hp5.keep hal)
      have HC8 := Lib.hid (hb_new w7 #[.slice A5 ss.length c5, .slice B5 ss.length d5] 36)
      obtain ⟨T, hT⟩ : ∃ T, T = 2 * ss.length := ⟨_, rfl⟩
      have hv8 := HV6.out.keep hb8
      rw [← hT] at hv8
      have HV8 := Lib.hid hv8
      have HX8 := Lib.hid (HX6.out.keep hb8)
      have HD8 := Lib.hid (HD6.out.keep hb8)
      have HB8 := Lib.hid (HB6.out.trans (hb8.mono HB6.out.size))
      have hmul : IntKind.i64.wrap (2 * (ss.length : Int)) = (T : Int) := (IntWalk.i64_in _ (by omega)).trans (by omega)
      clear hb hal hb8 hn5 hp5 hv8 hc5 hd5 HV6 HX6 HD6 HB6 HRD hT
      have c0 := HC8.out.cell 0
      have c1 := HC8.out.cell 1
      have cl := HC8.out.lt
      go_wp2_with fail
      generalize w7.alloc (.cells #[.slice A5 ss.length c5, .slice B5 ss.length d5] 36) = w8 at *
      generalize w7.heap.size = bc at *
      clear w7
      refine (rsame_yes w8 A5 _ c5 cs ss HN8.out (HNS.out.keep HB8.out)).mono ?_
      rintro e w9 ⟨rfl, hb⟩
      have HP9 := Lib.hid (HP8.out.keep hb)
      have HC9 := Lib.hid (HC8.out.keep hb)
      have HV9 := Lib.hid (HV8.out.keep hb)
      have HX9 := Lib.hid (HX8.out.keep hb)
      have HD9 := Lib.hid (HD8.out.keep hb)
      have HB9 := Lib.hid (HB8.out.trans (hb.mono HB8.out.size))
      clear hb HN8 HP8 HC8 HV8 HX8 HD8 HB8 c0 c1 cl
      go_wp2_with fail
      refine (Vol.device_any HV9.out).mono ?_
      rintro e w10 ⟨rfl, rfl⟩
      go_wp2_with fail
      refine (Vol.up_stores HV9.out.up).mono ?_
      rintro e w10 ⟨rfl, rfl⟩
      go_wp2_with fail
      refine (Vol.device_any HV9.out).mono ?_
      rintro e w10 ⟨rfl, rfl⟩
      go_wp2_with fail
      refine (Vol.up_steps HV9.out.up).mono ?_
      rintro e w10 ⟨rfl, rfl⟩
      have c0 := HC9.out.cell 0
      have c1 := HC9.out.cell 1
      have cl := HC9.out.lt
      go_wp2_with fail
      have hru := runs_any w9 A5 B5 ss.length c5 d5 l HP9.out HMP.out (by rw [HPN.out]; omega)
      rw [HPN.out, HRP.out] at hru
      refine hru.mono ?_
      rintro e w10 ⟨G, gr, rfl, hpg, hb⟩
      have HG10 := Lib.hid hpg
      have HV10 := Lib.hid (HV9.out.keep hb)
      have HX10 := Lib.hid (HX9.out.keep hb)
      have HD10 := Lib.hid (HD9.out.keep hb)
      have HB10 := Lib.hid (HB9.out.trans (hb.mono HB9.out.size))
      clear hb hru hpg HP9 HC9 HV9 HX9 HD9 HB9 c0 c1 cl
      go_wp2_with fail
      go_loopw [109] (fun i wr => ∃ t : Nat, t ≤ ss.length ∧ i = .int .i64 (t : Int) ∧ Below w10.heap.size w10 wr) (fun i _ => ss.length - (intOf i).toNat)
      case atStart => exact ⟨0, Nat.zero_le _, rfl, Below.refl _ _⟩
      case round =>
        obtain ⟨t, ht, rfl, hb⟩ := hrel
        by_cases hlt : t < ss.length
        · have hlr : t < rs.length := by have := HLE.out; omega
          obtain ⟨b7, o7, rfl, hbb, hd0, hd1⟩ := (HG10.out.keep hb).at' t hlr
          obtain ⟨b8, o8, rfl, hbb2, he0, he1⟩ := (HPR.out.keep (HB10.out.trans (hb.mono HB10.out.size))).at' t hlr
          generalize rs[t] = p at *
          obtain ⟨px, py⟩ := p
          simp only at hd0 hd1 he0 he1
          have hal := (Below.refl wr.heap.size wr).alloc (Nat.le_refl _) (.cells #[.int .i64 px, .int .i64 py] 59)
          have hxx := hb_new wr #[.int .i64 px, .int .i64 py] 59
          have m0 := hxx.cell 0
          have m1 := hxx.cell 1
          have ml := hxx.lt
          have e0 := (hal.cell (p := ⟨b8, o8 + t * 2, none⟩) hbb2).trans he0
          have e1 := (hal.cell (p := ⟨b8, o8 + t * 2 + 1, none⟩) hbb2).trans he1
          have el := Nat.lt_of_lt_of_le hbb2 hal.size
          have hti : (t : Int) < (ss.length : Int) := by omega
          have htr : (t : Int) < (rs.length : Int) := by omega
          have HB := Lib.hid ((hb.trans (hal.mono hb.size)).trans (bel_drew _))
          clear hb hal hxx he0 he1 hbb2
          go_wp2
          generalize wr.alloc (.cells #[.int .i64 px, .int .i64 py] 59) = w17 at *
          go_region
          go_wp2
          exact ⟨⟨t + 1, by omega, by go_num, HB.out⟩, by simp [intOf]; omega⟩
        · obtain rfl : t = ss.length := by omega
          have HV11 := Lib.hid (HV10.out.keep hb)
          have HX11 := Lib.hid (HX10.out.keep hb)
          have HD11 := Lib.hid (HD10.out.keep hb)
          have HB11 := Lib.hid (HB10.out.trans (hb.mono HB10.out.size))
          clear hb HV10 HX10 HD10 HB10 HG10 hlt ht
          generalize hw11 : wr = w11 at *
          clear hw11
          go_wp2_with fail
          refine (Vol.device_any HV11.out).mono ?_
          rintro e w12 ⟨rfl, rfl⟩
          go_wp2_with fail
          refine (Vol.up_words HV11.out.up (by have := HWL.out; have := HAT.out; omega)).mono ?_
          rintro e w12 ⟨g2, c2, rfl, hg2, hwd2, hb⟩
          have HW12 := Lib.hid hwd2
          have HX12 := Lib.hid (HX11.out.keep hb)
          have HD12 := Lib.hid (HD11.out.keep hb)
          have HB12 := Lib.hid (HB11.out.trans (hb.mono HB11.out.size))
          clear hg2 hwd2 hb HV11 HX11 HD11 HB11
          go_wp2_with fail
          go_loopw [125] (fun i wr => ∃ t : Nat, t ≤ U.length ∧ i = .int .i64 (t : Int) ∧ Below w12.heap.size w12 wr) (fun i _ => U.length - (intOf i).toNat)
          case atStart => exact ⟨0, Nat.zero_le _, rfl, Below.refl _ _⟩
          case round =>
            obtain ⟨t, ht, rfl, hb⟩ := hrel
            by_cases hlt : t < U.length
            · have hle : t < (rawW n m s E ws).length := by have := HWL.out; have := HLN.out; omega
              obtain ⟨b7, o7, e7, hbb, hd0⟩ := (HW12.out.keep hb).at' t hlt
              obtain ⟨b8, o8, e8, hbb2, he0⟩ := (HD12.out.keep hb).at' t hle
              have HEQ := Lib.hid (fun (h : ∀ s ∈ S, t ≠ 16 + m * 8 + s) => show U[t] = (rawW n m s E ws)[t] from by
                have := HEL.out t h
                rw [List.getElem?_eq_getElem hlt, List.getElem?_eq_getElem hle] at this
                exact Option.some.inj this)
              generalize U[t] = p at *
              generalize (rawW n m s E ws)[t] = q at *
              cases e7
              cases e8
              simp only [Nat.zero_add] at hd0 he0
              have c4 := (HX12.out.keep hb).cell 4
              have c8 := (HX12.out.keep hb).cell 8
              have cl := (HX12.out.keep hb).lt
              have hti : (t : Int) < (U.length : Int) := by omega
              have htE : (t : Int) < (E : Int) := by have := HWL.out; omega
              have HBW := Lib.hid hb
              have HNW := Lib.hid (HNS.out.keep (HB12.out.trans (hb.mono HB12.out.size)))
              have ht540 : t ≤ 540 := by have := HWL.out; have := HAT.out; omega
              have hsl : sl ≤ 540 := by have := HAT.out; omega
              clear hb
              go_wp2
              clear hti
              generalize hwo : wr = wo at *
              clear hwo
              go_loopw [17, 132] (fun bb i wq => ∃ (j : Nat) (ib : Bool), j ≤ ss.length ∧ i = .int .i64 (j : Int) ∧ bb = .bool ib ∧ wq = wo ∧ Iq S (16 + m * 8) t ib j) (fun _ i _ => ss.length - (intOf i).toNat)
              case atStart => exact ⟨0, false, Nat.zero_le _, rfl, rfl, rfl, fun _ k _ h => by omega⟩
              case round =>
                obtain ⟨j, ib, hj, rfl, rfl, rfl, hiq⟩ := hrel
                by_cases hjt : j < ss.length
                · obtain ⟨b9, o9, e9, hbb9, hf0⟩ := HNW.out.at' j hjt
                  obtain ⟨hjs, hjv, hjn⟩ := HSN.out j hjt
                  have HNX := Lib.hid (hiq.next hjs)
                  rw [hjv] at hf0
                  obtain ⟨F, hF⟩ : ∃ F, F = sl + S[j] := ⟨_, rfl⟩
                  have hsum : IntKind.i64.wrap ((sl : Int) + ((S[j] : Nat) : Int)) = (F : Int) := (IntWalk.i64_in _ (by omega)).trans (by omega)
                  have HF := Lib.hid (show F = 16 + m * 8 + S[j] by have := HAT.out; omega)
                  generalize S[j] = v at *
                  have hji : (j : Int) < (ss.length : Int) := by omega
                  have hj30 : j ≤ 30 := by omega
                  clear hiq hjv hF hjt
                  cases ib with
                  | true =>
                    go_wp2
                    exact ⟨⟨j + 1, true, by omega, by go_num, rfl, by first | rfl | trivial, HNX.out.1 rfl⟩, by simp [intOf]; omega⟩
                  | false =>
                    by_cases htF : t = F
                    · subst htF
                      go_wp2
                      exact ⟨⟨j + 1, true, by omega, by go_num, rfl, by first | rfl | trivial, fun h => by cases h⟩, by simp [intOf]; omega⟩
                    · have htF2 : ((t : Int) == (F : Int)) = false := by simp; omega
                      have htF3 : ¬ (t : Int) = (F : Int) := by omega
                      have HI := Lib.hid (HNX.out.2 (by have := HF.out; omega))
                      go_wp2
                      exact ⟨⟨j + 1, false, by omega, by go_num, rfl, by first | rfl | trivial, HI.out⟩, by simp [intOf]; omega⟩
                · obtain rfl : j = ss.length := by omega
                  have HIQ := Lib.hid hiq
                  clear hiq hj hjt
                  cases ib with
                  | true =>
                    go_wp2
                    exact ⟨⟨t + 1, by omega, by go_num, HBW.out⟩, by simp [intOf]; omega⟩
                  | false =>
                    obtain rfl := HEQ.out (HIQ.out.all (by have := HSL.out; omega))
                    go_wp2
                    exact ⟨⟨t + 1, by omega, by go_num, HBW.out⟩, by simp [intOf]; omega⟩
            · obtain rfl : t = U.length := by omega
              have HBW := Lib.hid (HB12.out.trans (hb.mono HB12.out.size))
              clear hb
              go_wp2
              go_ret
              exact ⟨rfl, HBW.out⟩
    · have hh := hh0 h0
      have h0i : (0 : Int) < (ss.length : Int) := by omega
      have h0d : decide ((0 : Int) < (ss.length : Int)) = true := decide_eq_true h0i
      have h0e : decide (0 < ss.length) = true := decide_eq_true h0
      obtain ⟨b0, o0, rfl, hb0, hc0⟩ := (HNS.out.keep HB6.out).at' 0 h0
      rw [← hh] at hc0
      rw [Nat.add_zero] at hc0
      clear hh0 hh1 hh
      go_wp2_with fail
      clear h0 h0i h0d h0e
      refine HRD.out.mono ?_
      rintro e w7 ⟨A5, c5, B5, d5, rfl, hn5, hp5, hc5, hd5, hb⟩
      have hal := (Below.refl w7.heap.size w7).alloc (Nat.le_refl _) (.cells #[.slice A5 ss.length c5, .slice B5 ss.length d5] 36)
      have hb8 := hb.trans (hal.mono hb.size)
      have HN8 := Lib.hid (hn5.keep hal)
      have HP8 := Lib.hid (hp5.keep hal)
      have HC8 := Lib.hid (hb_new w7 #[.slice A5 ss.length c5, .slice B5 ss.length d5] 36)
      obtain ⟨T, hT⟩ : ∃ T, T = 2 * ss.length := ⟨_, rfl⟩
      have hv8 := HV6.out.keep hb8
      rw [← hT] at hv8
      have HV8 := Lib.hid hv8
      have HX8 := Lib.hid (HX6.out.keep hb8)
      have HD8 := Lib.hid (HD6.out.keep hb8)
      have HB8 := Lib.hid (HB6.out.trans (hb8.mono HB6.out.size))
      have hmul : IntKind.i64.wrap (2 * (ss.length : Int)) = (T : Int) := (IntWalk.i64_in _ (by omega)).trans (by omega)
      clear hb hal hb8 hn5 hp5 hv8 hc5 hd5 HV6 HX6 HD6 HB6 HRD hT
      have c0 := HC8.out.cell 0
      have c1 := HC8.out.cell 1
      have cl := HC8.out.lt
      go_wp2_with fail
      generalize w7.alloc (.cells #[.slice A5 ss.length c5, .slice B5 ss.length d5] 36) = w8 at *
      generalize w7.heap.size = bc at *
      clear w7
      refine (rsame_yes w8 A5 _ c5 cs ss HN8.out (HNS.out.keep HB8.out)).mono ?_
      rintro e w9 ⟨rfl, hb⟩
      have HP9 := Lib.hid (HP8.out.keep hb)
      have HC9 := Lib.hid (HC8.out.keep hb)
      have HV9 := Lib.hid (HV8.out.keep hb)
      have HX9 := Lib.hid (HX8.out.keep hb)
      have HD9 := Lib.hid (HD8.out.keep hb)
      have HB9 := Lib.hid (HB8.out.trans (hb.mono HB8.out.size))
      clear hb HN8 HP8 HC8 HV8 HX8 HD8 HB8 c0 c1 cl
      go_wp2_with fail
      refine (Vol.device_any HV9.out).mono ?_
      rintro e w10 ⟨rfl, rfl⟩
      go_wp2_with fail
      refine (Vol.up_stores HV9.out.up).mono ?_
      rintro e w10 ⟨rfl, rfl⟩
      go_wp2_with fail
      refine (Vol.device_any HV9.out).mono ?_
      rintro e w10 ⟨rfl, rfl⟩
      go_wp2_with fail
      refine (Vol.up_steps HV9.out.up).mono ?_
      rintro e w10 ⟨rfl, rfl⟩
      have c0 := HC9.out.cell 0
      have c1 := HC9.out.cell 1
      have cl := HC9.out.lt
      go_wp2_with fail
      have hru := runs_any w9 A5 B5 ss.length c5 d5 l HP9.out HMP.out (by rw [HPN.out]; omega)
      rw [HPN.out, HRP.out] at hru
      refine hru.mono ?_
      rintro e w10 ⟨G, gr, rfl, hpg, hb⟩
      have HG10 := Lib.hid hpg
      have HV10 := Lib.hid (HV9.out.keep hb)
      have HX10 := Lib.hid (HX9.out.keep hb)
      have HD10 := Lib.hid (HD9.out.keep hb)
      have HB10 := Lib.hid (HB9.out.trans (hb.mono HB9.out.size))
      clear hb hru hpg HP9 HC9 HV9 HX9 HD9 HB9 c0 c1 cl
      go_wp2_with fail
      go_loopw [109] (fun i wr => ∃ t : Nat, t ≤ ss.length ∧ i = .int .i64 (t : Int) ∧ Below w10.heap.size w10 wr) (fun i _ => ss.length - (intOf i).toNat)
      case atStart => exact ⟨0, Nat.zero_le _, rfl, Below.refl _ _⟩
      case round =>
        obtain ⟨t, ht, rfl, hb⟩ := hrel
        by_cases hlt : t < ss.length
        · have hlr : t < rs.length := by have := HLE.out; omega
          obtain ⟨b7, o7, rfl, hbb, hd0, hd1⟩ := (HG10.out.keep hb).at' t hlr
          obtain ⟨b8, o8, rfl, hbb2, he0, he1⟩ := (HPR.out.keep (HB10.out.trans (hb.mono HB10.out.size))).at' t hlr
          generalize rs[t] = p at *
          obtain ⟨px, py⟩ := p
          simp only at hd0 hd1 he0 he1
          have hal := (Below.refl wr.heap.size wr).alloc (Nat.le_refl _) (.cells #[.int .i64 px, .int .i64 py] 59)
          have hxx := hb_new wr #[.int .i64 px, .int .i64 py] 59
          have m0 := hxx.cell 0
          have m1 := hxx.cell 1
          have ml := hxx.lt
          have e0 := (hal.cell (p := ⟨b8, o8 + t * 2, none⟩) hbb2).trans he0
          have e1 := (hal.cell (p := ⟨b8, o8 + t * 2 + 1, none⟩) hbb2).trans he1
          have el := Nat.lt_of_lt_of_le hbb2 hal.size
          have hti : (t : Int) < (ss.length : Int) := by omega
          have htr : (t : Int) < (rs.length : Int) := by omega
          have HB := Lib.hid ((hb.trans (hal.mono hb.size)).trans (bel_drew _))
          clear hb hal hxx he0 he1 hbb2
          go_wp2
          generalize wr.alloc (.cells #[.int .i64 px, .int .i64 py] 59) = w17 at *
          go_region
          go_wp2
          exact ⟨⟨t + 1, by omega, by go_num, HB.out⟩, by simp [intOf]; omega⟩
        · obtain rfl : t = ss.length := by omega
          have HV11 := Lib.hid (HV10.out.keep hb)
          have HX11 := Lib.hid (HX10.out.keep hb)
          have HD11 := Lib.hid (HD10.out.keep hb)
          have HB11 := Lib.hid (HB10.out.trans (hb.mono HB10.out.size))
          clear hb HV10 HX10 HD10 HB10 HG10 hlt ht
          generalize hw11 : wr = w11 at *
          clear hw11
          go_wp2_with fail
          refine (Vol.device_any HV11.out).mono ?_
          rintro e w12 ⟨rfl, rfl⟩
          go_wp2_with fail
          refine (Vol.up_words HV11.out.up (by have := HWL.out; have := HAT.out; omega)).mono ?_
          rintro e w12 ⟨g2, c2, rfl, hg2, hwd2, hb⟩
          have HW12 := Lib.hid hwd2
          have HX12 := Lib.hid (HX11.out.keep hb)
          have HD12 := Lib.hid (HD11.out.keep hb)
          have HB12 := Lib.hid (HB11.out.trans (hb.mono HB11.out.size))
          clear hg2 hwd2 hb HV11 HX11 HD11 HB11
          go_wp2_with fail
          go_loopw [125] (fun i wr => ∃ t : Nat, t ≤ U.length ∧ i = .int .i64 (t : Int) ∧ Below w12.heap.size w12 wr) (fun i _ => U.length - (intOf i).toNat)
          case atStart => exact ⟨0, Nat.zero_le _, rfl, Below.refl _ _⟩
          case round =>
            obtain ⟨t, ht, rfl, hb⟩ := hrel
            by_cases hlt : t < U.length
            · have hle : t < (rawW n m s E ws).length := by have := HWL.out; have := HLN.out; omega
              obtain ⟨b7, o7, e7, hbb, hd0⟩ := (HW12.out.keep hb).at' t hlt
              obtain ⟨b8, o8, e8, hbb2, he0⟩ := (HD12.out.keep hb).at' t hle
              have HEQ := Lib.hid (fun (h : ∀ s ∈ S, t ≠ 16 + m * 8 + s) => show U[t] = (rawW n m s E ws)[t] from by
                have := HEL.out t h
                rw [List.getElem?_eq_getElem hlt, List.getElem?_eq_getElem hle] at this
                exact Option.some.inj this)
              generalize U[t] = p at *
              generalize (rawW n m s E ws)[t] = q at *
              cases e7
              cases e8
              simp only [Nat.zero_add] at hd0 he0
              have c4 := (HX12.out.keep hb).cell 4
              have c8 := (HX12.out.keep hb).cell 8
              have cl := (HX12.out.keep hb).lt
              have hti : (t : Int) < (U.length : Int) := by omega
              have htE : (t : Int) < (E : Int) := by have := HWL.out; omega
              have HBW := Lib.hid hb
              have HNW := Lib.hid (HNS.out.keep (HB12.out.trans (hb.mono HB12.out.size)))
              have ht540 : t ≤ 540 := by have := HWL.out; have := HAT.out; omega
              have hsl : sl ≤ 540 := by have := HAT.out; omega
              clear hb
              go_wp2
              clear hti
              generalize hwo : wr = wo at *
              clear hwo
              go_loopw [17, 132] (fun bb i wq => ∃ (j : Nat) (ib : Bool), j ≤ ss.length ∧ i = .int .i64 (j : Int) ∧ bb = .bool ib ∧ wq = wo ∧ Iq S (16 + m * 8) t ib j) (fun _ i _ => ss.length - (intOf i).toNat)
              case atStart => exact ⟨0, false, Nat.zero_le _, rfl, rfl, rfl, fun _ k _ h => by omega⟩
              case round =>
                obtain ⟨j, ib, hj, rfl, rfl, rfl, hiq⟩ := hrel
                by_cases hjt : j < ss.length
                · obtain ⟨b9, o9, e9, hbb9, hf0⟩ := HNW.out.at' j hjt
                  obtain ⟨hjs, hjv, hjn⟩ := HSN.out j hjt
                  have HNX := Lib.hid (hiq.next hjs)
                  rw [hjv] at hf0
                  obtain ⟨F, hF⟩ : ∃ F, F = sl + S[j] := ⟨_, rfl⟩
                  have hsum : IntKind.i64.wrap ((sl : Int) + ((S[j] : Nat) : Int)) = (F : Int) := (IntWalk.i64_in _ (by omega)).trans (by omega)
                  have HF := Lib.hid (show F = 16 + m * 8 + S[j] by have := HAT.out; omega)
                  generalize S[j] = v at *
                  have hji : (j : Int) < (ss.length : Int) := by omega
                  have hj30 : j ≤ 30 := by omega
                  clear hiq hjv hF hjt
                  cases ib with
                  | true =>
                    go_wp2
                    exact ⟨⟨j + 1, true, by omega, by go_num, rfl, by first | rfl | trivial, HNX.out.1 rfl⟩, by simp [intOf]; omega⟩
                  | false =>
                    by_cases htF : t = F
                    · subst htF
                      go_wp2
                      exact ⟨⟨j + 1, true, by omega, by go_num, rfl, by first | rfl | trivial, fun h => by cases h⟩, by simp [intOf]; omega⟩
                    · have htF2 : ((t : Int) == (F : Int)) = false := by simp; omega
                      have htF3 : ¬ (t : Int) = (F : Int) := by omega
                      have HI := Lib.hid (HNX.out.2 (by have := HF.out; omega))
                      go_wp2
                      exact ⟨⟨j + 1, false, by omega, by go_num, rfl, by first | rfl | trivial, HI.out⟩, by simp [intOf]; omega⟩
                · obtain rfl : j = ss.length := by omega
                  have HIQ := Lib.hid hiq
                  clear hiq hj hjt
                  cases ib with
                  | true =>
                    go_wp2
                    exact ⟨⟨t + 1, by omega, by go_num, HBW.out⟩, by simp [intOf]; omega⟩
                  | false =>
                    obtain rfl := HEQ.out (HIQ.out.all (by have := HSL.out; omega))
                    go_wp2
                    exact ⟨⟨t + 1, by omega, by go_num, HBW.out⟩, by simp [intOf]; omega⟩
            · obtain rfl : t = U.length := by omega
              have HBW := Lib.hid (HB12.out.trans (hb.mono HB12.out.size))
              clear hb
              go_wp2
              go_ret
              exact ⟨rfl, HBW.out⟩
end
end Chn
end Go.Proofs.YtleehhpodgbomaaGreatDoor
/- Law 16's arguments, as they are read, opened: ints with their row's room, runs. -/
namespace Go.Proofs.YtleehhpodgbomaaGreatDoor
open Go.RowKit Go.MapKept Go.ChangeShapes Go.WideShapes Go.Deep
namespace Chn
section
variable {H : Type} {enc : TypeId × Value → H} {W : World} {fuel : Nat} {sp : Nat → Bool} {held : Bool}
theorem cells_run : Tryz.prog.cellsOf 59 = 2 := by kernel_rfl

theorem open_room {v : Value} {x : DataW H × List MemPlace} (h : DataW.trod enc Tryz.prog W 0 sp held fuel 33 [v] = some x) : ∃ A l c, v = .slice A l.length c ∧ l.length ≤ c ∧ Pack.Nts W A l := by
  obtain ⟨A, l, c, e, hn⟩ := Pack.open_ints h
  refine ⟨A, l, c, e, ?_, hn⟩
  rcases open_slice1 Tryz.underlying33 Pack.cells_int h with ⟨hcs, _⟩ | ⟨a, len, cap, m, n, V, D, Pl, hcs, _, hl, hm, hmm, _, hi⟩
  · simp at hcs
    rw [hcs] at e
    injection e with e1 e2 e3
    omega
  · simp at hcs
    rw [hcs] at e
    injection e with e1 e2 e3
    omega

set_option maxRecDepth 100000 in
/-- a run's two cells -/
theorem open_run {cs : List Value} {x : DataW H × List MemPlace} (h : DataW.trod enc Tryz.prog W 0 sp held fuel 59 cs = some x) :
    ∃ f : Int × Int, cs = [.int .i64 f.1, .int .i64 f.2] ∧ (-9223372036854775808 ≤ f.1 ∧ f.1 ≤ 9223372036854775807) ∧ -9223372036854775808 ≤ f.2 ∧ f.2 ≤ 9223372036854775807 := by
  obtain ⟨ys, n, _, _, hlen, hyl, hf⟩ := DataW.trod_struct Tryz.underlying59 h
  rw [cells_run] at hlen
  match cs, hlen with
  | [c0, c1], _ =>
    have g0 : DataW.trod enc Tryz.prog W 0 sp held n 3 [c0] = ys[0]? := hf 0 _ rfl
    have g1 : DataW.trod enc Tryz.prog W 0 sp held n 3 [c1] = ys[1]? := hf 1 _ rfl
    have hy : ys.length = 2 := hyl
    rw [List.getElem?_eq_getElem (by omega)] at g0 g1
    obtain ⟨k, e0, _, w0⟩ := DataW.trod_int Tryz.underlying3 g0
    obtain ⟨y, e1, _, w1⟩ := DataW.trod_int Tryz.underlying3 g1
    simp at e0 e1
    subst e0 e1
    exact ⟨(k, y), rfl, Pack.i64_bounds w0, Pack.i64_bounds w1⟩

theorem open_runs {v : Value} {x : DataW H × List MemPlace} (h : DataW.trod enc Tryz.prog W 0 sp held fuel 53 [v] = some x) : ∃ A l c, v = .slice A l.length c ∧ Prs W A l := by
  rcases open_slice Tryz.underlying53 h with ⟨hcs, _⟩ | ⟨a, len, cap, m, n, D, Pl, hcs, _, hl, hm, hmm, hx, hi⟩
  · simp at hcs
    exact ⟨none, [], 0, hcs, fun f hf => by simp at hf, by simp, fun j hj => absurd hj (by simp)⟩
  · simp at hcs
    have hlen : len ≤ 9223372036854775807 := by unfold maxLen at hm; omega
    have hjm : ∀ i, i < len → i < m := fun i hi => by rw [hmm]; split <;> omega
    have one : ∀ i, ∃ f : Int × Int, i < len → (W.cell? (a.add (i * 2)) = some (.int .i64 f.1) ∧ W.cell? ((a.add (i * 2)).add 1) = some (.int .i64 f.2) ∧ (-9223372036854775808 ≤ f.1 ∧ f.1 ≤ 9223372036854775807) ∧ -9223372036854775808 ≤ f.2 ∧ f.2 ≤ 9223372036854775807) := fun i => by
      by_cases hil : i < len
      · obtain ⟨cs', hc, ht⟩ := hi i (hjm i hil)
        rw [cells_run] at hc
        obtain ⟨f, rfl, h1, h2⟩ := open_run ht
        obtain ⟨_, _, hat⟩ := World.cells?_some hc
        have g0 := hat 0 (by omega)
        have g1 := hat 1 (by omega)
        simp only [List.getElem?_cons_zero, List.getElem?_cons_succ] at g0 g1
        refine ⟨f, fun _ => ⟨?_, ?_, h1, h2⟩⟩
        · simpa [Addr.add] using g0
        · exact g1
      · exact ⟨(0, 0), fun h => absurd h hil⟩
    obtain ⟨f, hf⟩ := Classical.skolem.1 one
    have hget : ∀ j (hj : j < ((List.range len).map f).length), ((List.range len).map f)[j] = f j := fun j hj => by rw [List.getElem_map, List.getElem_range]
    refine ⟨some a, (List.range len).map f, cap, by rw [List.length_map, List.length_range]; exact hcs, fun g hg => ?_, by rw [List.length_map, List.length_range]; exact hlen, fun j hj => ?_⟩
    · obtain ⟨i, hi, rfl⟩ := List.mem_map.1 hg
      exact (hf i (List.mem_range.1 hi)).2.2
    · rw [hget j hj]
      rw [List.length_map, List.length_range] at hj
      have hc0 := (hf 0 (by omega)).1
      obtain ⟨b, o, spot⟩ := a
      have hspot : spot = none := by simpa [Addr.add] using World.cell?_spot hc0
      subst hspot
      obtain ⟨g0, g1, _⟩ := hf j hj
      simp only [Go.WideShapes.add_plain] at g0 g1
      exact ⟨b, o, rfl, Pack.cell_lt g0, g0, g1⟩
end
end Chn
end Go.Proofs.YtleehhpodgbomaaGreatDoor
