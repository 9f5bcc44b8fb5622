/- PackOne, walked: one field of any width holds just what is below its power. -/
import Derived.Test.YtgpodmjdgcoidaaPackLives
namespace Go.Proofs.Ytgpodmjdgcoidaa
open Go.RowKit Go.MapKept
namespace Pack

theorem pk_one (n : Int) (v : Nat) : pk 0 0 [⟨n, v⟩] = if (1 ≤ n ∧ n ≤ 64) ∧ v < 2 ^ n.toNat then some (v, n.toNat) else none := by
  simp [pk]
theorem split_one (n : Int) (x : Nat) : split x [n] = if (1 ≤ n ∧ n ≤ 64) ∧ x < 2 ^ n.toNat then some [x] else none := by
  have hp : 0 < 2 ^ n.toNat := Nat.two_pow_pos _
  unfold split
  by_cases h : 1 ≤ n ∧ n ≤ 64
  · have e : tot 0 [n] = some n.toNat := by simp [tot, h]
    simp only [e, h, and_self, true_and]
    by_cases hx : x < 2 ^ n.toNat
    · simp [hx, Nat.div_eq_of_lt hx, sp, Nat.mod_eq_of_lt hx]
    · have : x / 2 ^ n.toNat ≠ 0 := Nat.ne_of_gt (Nat.div_pos (by omega) hp)
      simp [hx, this]
  · have e : tot 0 [n] = none := by simp only [tot]; rw [if_neg (by simpa using h)]
    simp only [e]
    rw [if_neg (fun h' => h h'.1)]

/-- that a field may be -/
def May (n : Int) (x : Nat) : Prop := (1 ≤ n ∧ n ≤ 64) ∧ x < 2 ^ n.toNat

theorem pk_yes {n : Int} {v : Nat} (h : May n v) : pk 0 0 [⟨n, v⟩] = some (v, n.toNat) := (pk_one n v).trans (if_pos h)
theorem pk_no {n : Int} {v : Nat} (h : ¬ May n v) : pk 0 0 [⟨n, v⟩] = none := (pk_one n v).trans (if_neg h)
theorem split_yes {n : Int} {v : Nat} (h : May n v) : split v [n] = some [v] := (split_one n v).trans (if_pos h)
theorem split_no {n : Int} {v : Nat} (h : ¬ May n v) : split v [n] = none := (split_one n v).trans (if_neg h)

set_option maxHeartbeats 1600000 in
set_option maxRecDepth 100000 in
theorem one_any (w : World) (n : Int) (x : Nat) (h1 : -9223372036854775808 ≤ n) (h2 : n ≤ 9223372036854775807) (hx : x < 18446744073709551616) :
    Calls Try.prog 6 #[.int .i64 n, .int .u64 (x : Int)] w fun r w' => r = .returned (.bool true) ∧ Below w.heap.size w w' := by
  have HL := Lib.hid (lives_any w)
  have C1 := Lib.hid (fun (w : World) => pack_any _ 1 _ (fds_one w n x h1 h2 hx))
  have C2 := Lib.hid (fun (w : World) => split_any x hx _ 1 _ (nts_one w n h1 h2))
  have hval : (n < 1 ∨ 64 < n ∨ n = 64 ∨ ∃ q : Nat, n = (q : Int) ∧ 1 ≤ q ∧ q < 64) := by
    by_cases h : 1 ≤ n
    · by_cases h' : n < 64
      · exact .inr (.inr (.inr ⟨n.toNat, by omega, by omega, by omega⟩))
      · omega
    · exact .inl (by omega)
  go_enter Try.func6, Try.ntmps6
  go_wp2_with fail
  refine HL.out.mono ?_
  rintro e w1 ⟨rfl, hb⟩
  have HB := Lib.hid hb
  clear hb
  go_wp2_with fail
  refine (C1.out w1).mono ?_
  rintro e w2 ⟨rfl, hb⟩
  have h3 := HB.out.alloc HB.out.size (.cells #[.int .i64 n, .int .u64 (x : Int)] 28)
  have HB2 := Lib.hid (h3.trans (hb.mono h3.size))
  clear hb h3
  have C3 := Lib.hid (show Calls Try.prog 10 #[.int .u64 (x : Int), .slice (some ⟨w2.heap.size, 0, none⟩) 1 1] (w2.alloc (.cells #[.int .i64 n] 3)) fun e w' => Below w.heap.size w w' ∧ ((May n x ∧ ∃ b o gc, e = .returned (.tuple #[.slice (some ⟨b, o, none⟩) 1 gc, .bool true]) ∧ w'.cell? ⟨b, o, none⟩ = some (.int .u64 (x : Int))) ∨ (¬ May n x ∧ ∃ G gc, e = .returned (.tuple #[.slice G 0 gc, .bool false]))) by
    refine (C2.out w2).mono ?_
    rintro e w3 ⟨G, gc, rfl, hw, hb⟩
    have h4 := HB2.out.alloc HB2.out.size (.cells #[.int .i64 n] 3)
    refine ⟨h4.trans (hb.mono h4.size), ?_⟩
    by_cases hm : May n x
    · rw [split_yes hm] at hw ⊢
      obtain ⟨b, o, rfl, _, hc⟩ := hw.at' 0 (by simp)
      exact .inl ⟨hm, b, o, gc, rfl, hc⟩
    · rw [split_no hm] at hw ⊢
      exact .inr ⟨hm, G, gc, rfl⟩)
  clear C1 C2 HL HB
  rcases hval with h | h | rfl | ⟨q, rfl, hq1, hq2⟩
  · have hm : ¬ May n x := fun h' => by have := h'.1.1; omega
    rw [pk_no hm]
    go_wp2_with fail
    refine C3.out.mono ?_
    rintro e w3 ⟨hb, hor⟩
    obtain ⟨_, G, gc, rfl⟩ := hor.resolve_left (fun h => hm h.1)
    have HB3 := Lib.hid hb
    clear hb hor
    go_wp2
    go_ret
    exact ⟨rfl, HB3.out⟩
  · have hm : ¬ May n x := fun h' => by have := h'.1.2; omega
    rw [pk_no hm]
    go_wp2_with fail
    refine C3.out.mono ?_
    rintro e w3 ⟨hb, hor⟩
    obtain ⟨_, G, gc, rfl⟩ := hor.resolve_left (fun h => hm h.1)
    have HB3 := Lib.hid hb
    clear hb hor
    go_wp2
    go_ret
    exact ⟨rfl, HB3.out⟩
  · have hm : May 64 x := ⟨⟨by decide, by decide⟩, hx⟩
    have HM := Lib.hid hm
    clear hm
    rw [pk_yes HM.out]
    go_wp2_with fail
    refine C3.out.mono ?_
    rintro e w3 ⟨hb, hor⟩
    obtain ⟨_, b, o, gc, rfl, hc⟩ := hor.resolve_right (fun h => h.1 HM.out)
    have HB3 := Lib.hid hb
    clear hb hor
    go_wp2
    go_ret
    exact ⟨rfl, HB3.out⟩
  · have hpl : 2 ^ q < 18446744073709551616 := Nat.pow_lt_pow_right (a := 2) (n := 64) (by omega) hq2
    obtain ⟨p, hp⟩ : ∃ p : Nat, p = 2 ^ q := ⟨_, rfl⟩
    have hpow : (2 : Int) ^ q = (p : Int) := by rw [hp]; simp
    rw [← hp] at hpl
    have hq3 : ¬ q = 64 := by omega
    by_cases hm : May (q : Int) x
    · have hlt : x < p := by rw [hp]; simpa using hm.2
      have HM := Lib.hid hm
      clear hm hp
      rw [pk_yes HM.out]
      go_wp2_with fail
      refine C3.out.mono ?_
      rintro e w3 ⟨hb, hor⟩
      obtain ⟨_, b, o, gc, rfl, hc⟩ := hor.resolve_right (fun h => h.1 HM.out)
      have HB3 := Lib.hid hb
      clear hb hor
      go_wp2
      go_ret
      exact ⟨rfl, HB3.out⟩
    · have hlt : ¬ x < p := fun h => hm ⟨⟨by omega, by omega⟩, by rw [hp] at h; simpa using h⟩
      rw [pk_no hm]
      clear hp
      go_wp2_with fail
      refine C3.out.mono ?_
      rintro e w3 ⟨hb, hor⟩
      obtain ⟨_, G, gc, rfl⟩ := hor.resolve_left (fun h => hm h.1)
      have HB3 := Lib.hid hb
      clear hb hor
      go_wp2
      go_ret
      exact ⟨rfl, HB3.out⟩
end Pack
end Go.Proofs.Ytgpodmjdgcoidaa
