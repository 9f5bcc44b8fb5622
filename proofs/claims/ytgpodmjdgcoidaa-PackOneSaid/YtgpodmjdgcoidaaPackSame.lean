/- Words that are the same; the document's word of fields. -/
import Derived.Test.YtgpodmjdgcoidaaPackLives
import Derived.Deep.QuietTactic
import Derived.BigQuiet
namespace Go.Proofs.Ytgpodmjdgcoidaa
open Go.RowKit Go.MapKept
namespace Pack

theorem below_drewN {B : Nat} {a w : World} (h : Below B a w) (n : Nat) : Below B a (w.drewN n) := ⟨h.os, h.tape, h.output, h.size, h.block⟩

theorem cell_eq {w w' : World} {n : Nat} (h : w' = w.drewN n) {a : Addr} {v : Option Value} (hc : w.cell? a = v) : w'.cell? a = v := by
  rw [h]
  exact hc

theorem field_lt (x v t q : Nat) (hx : x < 2 ^ t) (hv : v < 2 ^ q) (ht : t + q ≤ 64) : x + v * 2 ^ t < 18446744073709551616 := by
  have h1 : x + v * 2 ^ t < 2 ^ q * 2 ^ t := calc
    x + v * 2 ^ t < 2 ^ t + v * 2 ^ t := Nat.add_lt_add_right hx _
    _ = (v + 1) * 2 ^ t := by rw [Nat.add_mul, Nat.one_mul, Nat.add_comm]
    _ ≤ 2 ^ q * 2 ^ t := Nat.mul_le_mul_right _ hv
  rw [← Nat.pow_add] at h1
  exact Nat.lt_of_lt_of_le h1 (Nat.pow_le_pow_right (n := 2) (j := 64) (by omega) (by omega))

section
variable {w : World}
set_option maxHeartbeats 1600000 in
set_option maxRecDepth 100000 in
theorem same_any (A B : Option Addr) (c d : Nat) (l m : List Nat) (h : Wds w A l) (g : Wds w B m) :
    Calls Try.prog 11 #[.slice A l.length c, .slice B m.length d] w fun e w' => e = .returned (.bool (decide (l = m))) ∧ ∃ n, w' = w.drewN n := by
  have hn := h.len
  have hm := g.len
  have H := Lib.hid h
  have G := Lib.hid g
  clear h g
  by_cases hlen : l.length = m.length
  · go_enter Try.func11, Try.ntmps11
    go_wp2
    go_loopw [13] (fun i wr => ∃ (k n : Nat), k ≤ l.length ∧ i = .int .i64 (k : Int) ∧ l.take k = m.take k ∧ wr = w.drewN n) (fun i _ => l.length - (intOf i).toNat)
    case atStart => exact ⟨0, 0, Nat.zero_le _, rfl, rfl, rfl⟩
    case round =>
      obtain ⟨k, n, hk, rfl, hs, rfl⟩ := hrel
      have HS := Lib.hid hs
      clear hs
      by_cases hlt : k < l.length
      · have hlt2 : k < m.length := by omega
        obtain ⟨b, o, rfl, hb, hcell⟩ := H.out.at' k hlt
        obtain ⟨b2, o2, rfl, hb2, hcell2⟩ := G.out.at' k hlt2
        have hi0 : (0 : Int) ≤ (k : Int) := by omega
        have hi1 : (k : Int) < (l.length : Int) := by omega
        have hi2 : (k : Int) < (m.length : Int) := by omega
        have HE := Lib.hid (show l.take (k + 1) = m.take (k + 1) ↔ l[k] = m[k] by
          rw [List.take_succ_eq_append_getElem hlt, List.take_succ_eq_append_getElem (l := m) hlt2, HS.out, List.append_right_inj]
          simp)
        generalize l[k] = x at *
        generalize m[k] = y at *
        by_cases hxy : x = y
        · subst hxy
          have HE1 := Lib.hid (HE.out.2 rfl)
          clear HE
          go_wp2
          go_quiet (fail)
          go_wp2
          refine ⟨⟨k + 1, n + nq, by omega, by go_num, HE1.out, rfl⟩, by simp [intOf]; omega⟩
        · have hne : ¬ (x : Int) = (y : Int) := by omega
          go_wp2
          go_quiet (fail)
          go_wp2
          go_ret
          refine ⟨?_, n + nq, World.drewN_drewN _ _ _⟩
          have : ¬ l = m := fun h => hxy (HE.out.1 (by rw [h]))
          rw [decide_eq_false this]
          rfl
      · obtain rfl : k = l.length := by omega
        have he : l = m := by
          have := HS.out
          rwa [List.take_length, hlen, List.take_length] at this
        go_wp2
        go_ret
        refine ⟨?_, n, rfl⟩
        rw [decide_eq_true he]
        rfl
  · have hne : ¬ (l.length : Int) = (m.length : Int) := by omega
    have hlm : ¬ l = m := fun h => hlen (by rw [h])
    go_enter Try.func11, Try.ntmps11
    go_wp2
    go_ret
    refine ⟨?_, 0, rfl⟩
    rw [decide_eq_false hlm]
    rfl

set_option maxHeartbeats 1600000 in
set_option maxRecDepth 100000 in
theorem refPack_any (A B : Option Addr) (c d : Nat) (l : List Fld) (h : Nts w A (l.map Fld.n)) (g : Wds w B (l.map Fld.v)) :
    Calls Try.prog 9 #[.slice A l.length c, .slice B l.length d] w fun e w' => e = .returned (.tuple #[.int .u64 (((pk 0 0 l).map Prod.fst).getD 0 : Nat), .bool (pk 0 0 l).isSome]) ∧ ∃ n, w' = w.drewN n := by
  have hn : l.length ≤ 9223372036854775807 := by have := h.len; rwa [List.length_map] at this
  have H := Lib.hid h
  have G := Lib.hid g
  clear h g
  have HP := Lib.hid (fun (w : World) n hn => power_any w n hn)
  go_enter Try.func9, Try.ntmps9
  go_wp2
  go_loopw [6, 7, 12] (fun s a i wr => ∃ (m x t n : Nat), m ≤ l.length ∧ i = .int .i64 (m : Int) ∧ s = .int .u64 (x : Int) ∧ a = .int .i64 (t : Int) ∧ pk 0 0 (l.take m) = some (x, t) ∧ wr = w.drewN n) (fun _ _ i _ => l.length - (intOf i).toNat)
  case atStart => exact ⟨0, 0, 0, 0, Nat.zero_le _, rfl, rfl, rfl, rfl, rfl⟩
  case round =>
    obtain ⟨m, x, t, n, hm, rfl, rfl, rfl, ht, hwr⟩ := hrel
    have HW := Lib.hid hwr
    have hxt := pk_lt ht
    by_cases hlt : m < l.length
    · obtain ⟨b, o, rfl, hb, hcell⟩ := H.out.at' m (by rw [List.length_map]; exact hlt)
      obtain ⟨b2, o2, rfl, hb2, hcell2⟩ := G.out.at' m (by rw [List.length_map]; exact hlt)
      have hx := H.out.i64 _ (List.getElem_mem (l := l.map Fld.n) (by rw [List.length_map]; exact hlt))
      have hu := G.out.u64 _ (List.getElem_mem (l := l.map Fld.v) (by rw [List.length_map]; exact hlt))
      rw [List.getElem_map] at hcell hcell2 hx hu
      have hca := cell_eq hwr hcell
      have hcb := cell_eq hwr hcell2
      clear hwr hcell hcell2
      have HS := Lib.hid (pk_step hlt ht)
      have hi0 : (0 : Int) ≤ (m : Int) := by omega
      have hi1 : (m : Int) < (l.length : Int) := by omega
      generalize l[m] = f at *
      obtain ⟨k, v⟩ := f
      simp only at hx hu hca hcb HS
      clear ht
      by_cases hc : 1 ≤ k ∧ k ≤ 64 - (t : Int)
      · obtain ⟨q, rfl⟩ := Int.eq_ofNat_of_zero_le (show 0 ≤ k by omega)
        have ht1 : t < 64 := by omega
        obtain ⟨r, hr⟩ : ∃ r : Nat, r = 2 ^ t := ⟨_, rfl⟩
        have HPT := Lib.hid (fun W => hr ▸ HP.out W t ht1)
        by_cases hv : v < 2 ^ q
        · have hs := HS.out
          rw [if_pos ⟨hc, by simpa using hv⟩] at hs
          have HS2 := Lib.hid hs
          clear hs HS
          have hb := field_lt x v t q hxt.1 hv (by omega)
          rw [← hr] at hb HS2
          have hr1 : (v : Int) * (r : Int) = ((v * r : Nat) : Int) := by simp
          generalize v * r = y at *
          have hw1 : IntKind.wrap .u64 (y : Int) = (y : Int) := by rw [IntKind.wrap_u64]; omega
          have hw2 : IntKind.wrap .u64 ((x : Int) + (y : Int)) = (x : Int) + (y : Int) := by rw [IntKind.wrap_u64]; omega
          clear hr
          by_cases hq : q < 64
          · obtain ⟨u, hu⟩ : ∃ u : Nat, u = 2 ^ q := ⟨_, rfl⟩
            have HPQ := Lib.hid (fun W => hu ▸ HP.out W q hq)
            rw [← hu] at hv
            have hv2 : ¬ (u : Int) ≤ (v : Int) := by omega
            have hq2 : (q : Int) < 64 := by omega
            clear hu
            go_wp2
            go_quiet ((go_at_call 18; exact Calls.quiet_of_same ((HPQ.out _).mono (fun _ _ h => ⟨h.1, h.2.symm⟩))))
            obtain ⟨w2, hw2⟩ : ∃ w2, w2 = wr.drewN nq := ⟨_, rfl⟩
            have hcell3 := cell_eq hw2 hcb
            rw [← hw2]
            have HW2 := Lib.hid (show w2 = w.drewN (n + nq) by rw [hw2, HW.out, World.drewN_drewN])
            clear hw2 hca hcb
            go_wp2
            go_quiet ((go_at_call 18; exact Calls.quiet_of_same ((HPT.out _).mono (fun _ _ h => ⟨h.1, h.2.symm⟩))))
            go_wp2
            refine ⟨⟨m + 1, x + y, t + q, _, by omega, by go_num, by simp, by go_num, ?_, by rw [HW2.out, World.drewN_drewN]⟩, by simp [intOf]; omega⟩
            simpa using HS2.out
          · obtain rfl : q = 64 := by omega
            go_wp2
            go_quiet (fail)
            obtain ⟨w2, hw2⟩ : ∃ w2, w2 = wr.drewN nq := ⟨_, rfl⟩
            have hcell3 := cell_eq hw2 hcb
            rw [← hw2]
            have HW2 := Lib.hid (show w2 = w.drewN (n + nq) by rw [hw2, HW.out, World.drewN_drewN])
            clear hw2 hca hcb
            go_wp2
            go_quiet ((go_at_call 18; exact Calls.quiet_of_same ((HPT.out _).mono (fun _ _ h => ⟨h.1, h.2.symm⟩))))
            go_wp2
            refine ⟨⟨m + 1, x + y, t + 64, _, by omega, by go_num, by simp, by go_num, ?_, by rw [HW2.out, World.drewN_drewN]⟩, by simp [intOf]; omega⟩
            simpa using HS2.out
        · have hs := HS.out
          rw [if_neg (fun h => hv (by simpa using h.2))] at hs
          have HS2 := Lib.hid (pk_none hs)
          clear hs HS
          have hq : q < 64 := by
            rcases Nat.lt_or_ge q 64 with h | h
            · exact h
            · exfalso
              obtain rfl : q = 64 := by omega
              exact hv hu
          obtain ⟨u, hu⟩ : ∃ u : Nat, u = 2 ^ q := ⟨_, rfl⟩
          have HPQ := Lib.hid (fun W => hu ▸ HP.out W q hq)
          rw [← hu] at hv
          have hv2 : (u : Int) ≤ (v : Int) := by omega
          have hq2 : (q : Int) < 64 := by omega
          clear hu hr
          go_wp2
          go_quiet ((go_at_call 18; exact Calls.quiet_of_same ((HPQ.out _).mono (fun _ _ h => ⟨h.1, h.2.symm⟩))))
          go_wp2
          go_ret2
          exact ⟨by rw [HS2.out]; rfl, n + nq, by rw [HW.out, World.drewN_drewN]⟩
      · have hs := HS.out
        rw [if_neg (fun h => hc h.1)] at hs
        have HS2 := Lib.hid (pk_none hs)
        clear hs HS
        by_cases h1 : k < 1
        · go_wp2
          go_ret2
          exact ⟨by rw [HS2.out]; rfl, n, HW.out⟩
        · have h2 : 64 - (t : Int) < k := by omega
          go_wp2
          go_ret2
          exact ⟨by rw [HS2.out]; rfl, n, HW.out⟩
    · obtain rfl : m = l.length := by omega
      rw [List.take_length] at ht
      have HT := Lib.hid ht
      clear ht hwr
      go_wp2
      go_ret2
      exact ⟨by rw [HT.out]; rfl, n, HW.out⟩
end
end Pack
end Go.Proofs.Ytgpodmjdgcoidaa
