/- Words that are the same; the document's word of fields. -/
import Derived.Test.YtblibjjnbbleeaaDoorPackLives
import Derived.Deep.QuietTactic
import Derived.BigQuiet
namespace Go.Proofs.YtblibjjnbbleeaaDoor
open Go.RowKit Go.MapKept
namespace Pack

theorem below_drewN {B : Nat} {a w : World} (h : Below B a w) (n : Nat) : Below B a (w.drewN n) := ⟨h.os, h.tape, h.output, h.size, h.block⟩

theorem cell_eq {w w' : World} {n : Nat} (h : w' = w.drewN n) {a : Addr} {v : Option Value} (hc : w.cell? a = v) : w'.cell? a = v := by
  rw [h]
  exact hc

theorem field_lt (x v t q : Nat) (hx : x < 2 ^ t) (hv : v < 2 ^ q) (ht : t + q ≤ 64) : x + v * 2 ^ t < 18446744073709551616 := by
  have h1 : x + v * 2 ^ t < 2 ^ q * 2 ^ t := calc
    x + v * 2 ^ t < 2 ^ t + v * 2 ^ t := Nat.add_lt_add_right hx _
    _ = (v + 1) * 2 ^ t := by rw [Nat.add_mul, Nat.one_mul, Nat.add_comm]
    _ ≤ 2 ^ q * 2 ^ t := Nat.mul_le_mul_right _ hv
  rw [← Nat.pow_add] at h1
  exact Nat.lt_of_lt_of_le h1 (Nat.pow_le_pow_right (n := 2) (j := 64) (by omega) (by omega))

section
variable {w : World}
set_option maxHeartbeats 1600000 in
set_option maxRecDepth 100000 in
theorem same_any (A B : Option Addr) (c d : Nat) (l m : List Nat) (h : Wds w A l) (g : Wds w B m) :
    Calls Tryd.prog 37 #[.slice A l.length c, .slice B m.length d] w fun e w' => e = .returned (.bool (decide (l = m))) ∧ ∃ n, w' = w.drewN n := by
  have hn := h.len
  have hm := g.len
  have H := Lib.hid h
  have G := Lib.hid g
  clear h g
  by_cases hlen : l.length = m.length
  · go_enter Tryd.func37, Tryd.ntmps37
    go_wp2
    go_loopw [13] (fun i wr => ∃ (k n : Nat), k ≤ l.length ∧ i = .int .i64 (k : Int) ∧ l.take k = m.take k ∧ wr = w.drewN n) (fun i _ => l.length - (intOf i).toNat)
    case atStart => exact ⟨0, 0, Nat.zero_le _, rfl, rfl, rfl⟩
    case round =>
      obtain ⟨k, n, hk, rfl, hs, rfl⟩ := hrel
      have HS := Lib.hid hs
      clear hs
      by_cases hlt : k < l.length
      · have hlt2 : k < m.length := by omega
        obtain ⟨b, o, rfl, hb, hcell⟩ := H.out.at' k hlt
        obtain ⟨b2, o2, rfl, hb2, hcell2⟩ := G.out.at' k hlt2
        have hi0 : (0 : Int) ≤ (k : Int) := by omega
        have hi1 : (k : Int) < (l.length : Int) := by omega
        have hi2 : (k : Int) < (m.length : Int) := by omega
        have HE := Lib.hid (show l.take (k + 1) = m.take (k + 1) ↔ l[k] = m[k] by
          rw [List.take_succ_eq_append_getElem hlt, List.take_succ_eq_append_getElem (l := m) hlt2, HS.out, List.append_right_inj]
          simp)
        generalize l[k] = x at *
        generalize m[k] = y at *
        by_cases hxy : x = y
        · subst hxy
          have HE1 := Lib.hid (HE.out.2 rfl)
          clear HE
          go_wp2
          go_quiet (fail)
          go_wp2
          refine ⟨⟨k + 1, n + nq, by omega, by go_num, HE1.out, rfl⟩, by simp [intOf]; omega⟩
        · have hne : ¬ (x : Int) = (y : Int) := by omega
          go_wp2
          go_quiet (fail)
          go_wp2
          go_ret
          refine ⟨?_, n + nq, World.drewN_drewN _ _ _⟩
          have : ¬ l = m := fun h => hxy (HE.out.1 (by rw [h]))
          rw [decide_eq_false this]
          rfl
      · obtain rfl : k = l.length := by omega
        have he : l = m := by
          have := HS.out
          rwa [List.take_length, hlen, List.take_length] at this
        go_wp2
        go_ret
        refine ⟨?_, n, rfl⟩
        rw [decide_eq_true he]
        rfl
  · have hne : ¬ (l.length : Int) = (m.length : Int) := by omega
    have hlm : ¬ l = m := fun h => hlen (by rw [h])
    go_enter Tryd.func37, Tryd.ntmps37
    go_wp2
    go_ret
    refine ⟨?_, 0, rfl⟩
    rw [decide_eq_false hlm]
    rfl

end
end Pack
end Go.Proofs.YtblibjjnbbleeaaDoor
