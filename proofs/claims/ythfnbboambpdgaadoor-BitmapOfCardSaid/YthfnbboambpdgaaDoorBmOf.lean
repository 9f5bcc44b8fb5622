/- A map of words. -/
import Derived.Test.YthfnbboambpdgaaDoorBmSame
namespace Go.Proofs.YthfnbboambpdgaaDoor
open Go.RowKit Go.MapKept
namespace Bm
open Pack (Wds Nts)

/-- whether a bit of words is 1 -/
def bitAt (l : List Nat) (i : Nat) : Bool := (l.getD (i / 64) 0).testBit (i % 64)
/-- the blocks that words tell -/
def fo (n : Nat) (l : List Nat) (b : Nat) : Bool := decide (b < n) && bitAt l b
/-- no bit beyond n blocks is 1 -/
def Good (n : Nat) (l : List Nat) : Prop := ∀ i, n ≤ i → i < 64 * l.length → bitAt l i = false

theorem fo_far (n : Nat) (l : List Nat) : ∀ b, n ≤ b → fo n l b = false := fun b hb => by
  unfold fo
  rw [decide_eq_false (by omega)]
  rfl
theorem Good.words {n : Nat} {l : List Nat} (h : Good n l) (hu : ∀ x ∈ l, x < 18446744073709551616) (j : Nat) (hj : j < l.length) : l[j] = wd (fo n l) j := by
  apply is_wd
  intro i
  by_cases hi : i < 64
  · have e : bitAt l (64 * j + i) = l[j].testBit i := by
      unfold bitAt
      rw [show (64 * j + i) / 64 = j by omega, show (64 * j + i) % 64 = i by omega, List.getD_eq_getElem?_getD, List.getElem?_eq_getElem hj, Option.getD_some]
    unfold fo
    by_cases hb : 64 * j + i < n
    · simp [hi, hb, e]
    · have := h (64 * j + i) (by omega) (by omega)
      rw [e] at this
      simp [hb, this]
  · have : l[j].testBit i = false := Nat.testBit_lt_two_pow (Nat.lt_of_lt_of_le (hu _ (List.getElem_mem hj)) (Nat.pow_le_pow_right (n := 2) (i := 64) (by omega) (by omega)))
    simp [hi, this]
theorem Good.wds {n : Nat} {l : List Nat} (h : Good n l) (hu : ∀ x ∈ l, x < 18446744073709551616) : wds (fo n l) l.length = l := by
  apply List.ext_getElem
  · rw [wds_len]
  · intro j h1 h2
    rw [wds_get, ← h.words hu j h2]
/-- the last word's bits beyond n -/
theorem good_last {n K : Nat} {l : List Nat} (hK : K = (n + 63) / 64) (hl : l.length = K) (hr : n % 64 ≠ 0) : Good n l ↔ l.getD (K - 1) 0 / 2 ^ (n % 64) = 0 ∨ ¬ l.getD (K - 1) 0 < 18446744073709551616 ∧ Good n l := by
  constructor
  · intro h
    by_cases hx : l.getD (K - 1) 0 < 18446744073709551616
    · refine .inl (Nat.div_eq_of_lt ?_)
      apply Nat.lt_pow_two_of_testBit
      intro i hi
      by_cases h64 : i < 64
      · have := h (64 * (K - 1) + i) (by omega) (by omega)
        unfold bitAt at this
        rwa [show (64 * (K - 1) + i) / 64 = K - 1 by omega, show (64 * (K - 1) + i) % 64 = i by omega] at this
      · exact Nat.testBit_lt_two_pow (Nat.lt_of_lt_of_le hx (Nat.pow_le_pow_right (n := 2) (i := 64) (by omega) (by omega)))
    · exact .inr ⟨hx, h⟩
  · rintro (h | ⟨_, h⟩)
    · intro i h1 h2
      unfold bitAt
      have e : i / 64 = K - 1 := by omega
      rw [e]
      have hlt : l.getD (K - 1) 0 < 2 ^ (n % 64) := by
        rcases Nat.lt_or_ge (l.getD (K - 1) 0) (2 ^ (n % 64)) with g | g
        · exact g
        · have := Nat.div_pos g (Nat.pow_pos (by omega))
          omega
      exact Nat.testBit_lt_two_pow (Nat.lt_of_lt_of_le hlt (Nat.pow_le_pow_right (n := 2) (by omega) (by omega)))
    · exact h
theorem good_even {n K : Nat} {l : List Nat} (hK : K = (n + 63) / 64) (hl : l.length = K) (hr : n % 64 = 0) : Good n l := fun i h1 h2 => by omega

section
variable {w : World}
set_option maxRecDepth 100000 in
theorem hasBeyond_even (n : Nat) (hr : n % 64 = 0) (hn : n ≤ 65534) (A : Option Addr) (k c : Nat) : Calls Tryd.prog 36 #[.int .i64 (n : Int), .slice A k c] w fun e w' => e = .returned (.bool false) ∧ w = w' := by
  have h0 : (n : Int) % 64 = 0 := by omega
  go_enter Tryd.func36, Tryd.ntmps36
  go_wp2
  go_ret
  exact ⟨rfl, rfl⟩
set_option maxRecDepth 100000 in
theorem hasBeyond_odd (n r x k : Nat) (hr : r = n % 64) (hr0 : r ≠ 0) (hn : n ≤ 65534) (b o c : Nat) (hk : k ≤ 9223372036854775807) (hk0 : 0 < k) (hcell : w.cell? ⟨b, o + (k - 1), none⟩ = some (.int .u64 (x : Int))) : Calls Tryd.prog 36 #[.int .i64 (n : Int), .slice (some ⟨b, o, none⟩) k c] w fun e w' => e = .returned (.bool (!decide (x / 2 ^ r = 0))) ∧ w = w' := by
  have h0 : (n : Int) % 64 = (r : Int) := by omega
  have hr1 : ((r : Int) == 0) = false := by simp; omega
  have hr2 : ((r : Int) != 0) = true := by simp; omega
  have hr3 : (0 : Int) ≤ (r : Int) := by omega
  have hr4 : (r : Int) < 64 := by omega
  have hki : ((k : Int) - 1).toNat = k - 1 := by omega
  have hk1 : (0 : Int) ≤ (k : Int) - 1 := by omega
  have hk2 : (k : Int) - 1 < (k : Int) := by omega
  clear hr
  go_enter Tryd.func36, Tryd.ntmps36
  go_wp2
  go_ret
  refine ⟨congrArg (fun v => Ending.returned (.bool v)) ?_, rfl⟩
  rw [show (x : Int) / 2 ^ r = ((x / 2 ^ r : Nat) : Int) by simp]
  generalize x / 2 ^ r = y
  by_cases hy : y = 0
  · simp [hy]
  · have : ¬ (y : Int) = 0 := by omega
    simp [hy]

/-- whether words are a map's -/
def Ok (n : Int) (l : List Nat) : Prop := 0 ≤ n ∧ n ≤ 65534 ∧ (l.length : Int) = (n + 63) / 64 ∧ Good n.toNat l
/-- what Of answers -/
def OfR (w : World) (n : Nat) (l : List Nat) (e : Ending) (w' : World) : Prop :=
  ∃ p q C : Nat, e = .returned (.tuple #[.pointer (some ⟨p, 0, none⟩), .int .i64 0]) ∧ w.heap.size ≤ p ∧ w.heap.size ≤ q ∧ Mp w' p q l.length C n (fo n l) ∧ Below w.heap.size w w'

set_option maxRecDepth 100000 in
set_option maxHeartbeats 1000000 in
theorem of_far (n : Int) (A : Option Addr) (k c : Nat) (hn : n < 0 ∨ 65534 < n) : Calls Tryd.prog 18 #[.int .i64 n, .slice A k c] w fun e w' => e = .returned (.tuple #[.pointer none, .int .i64 2]) ∧ w = w' := by
  by_cases h0 : n < 0
  · clear hn
    go_enter Tryd.func18, Tryd.ntmps18
    go_wp2
    go_ret2
    exact ⟨rfl, rfl⟩
  · have h1 : 65534 < n := by omega
    clear hn
    go_enter Tryd.func18, Tryd.ntmps18
    go_wp2
    go_ret2
    exact ⟨rfl, rfl⟩
set_option maxRecDepth 100000 in
set_option maxHeartbeats 1000000 in
theorem of_len (n : Nat) (A : Option Addr) (k c : Nat) (hn : n ≤ 65534) (hne : k ≠ (n + 63) / 64) : Calls Tryd.prog 18 #[.int .i64 (n : Int), .slice A k c] w fun e w' => e = .returned (.tuple #[.pointer none, .int .i64 2]) ∧ w = w' := by
  have HW := Lib.hid (fun w => wordsOf_any n hn w)
  have h0 : ¬ (n : Int) < 0 := by omega
  have h1 : ¬ (65534 : Int) < (n : Int) := by omega
  generalize (n + 63) / 64 = K at *
  have h2 : ((k : Int) == (K : Int)) = false := by simp; omega
  have h3 : ((k : Int) != (K : Int)) = true := by simp; omega
  clear hne
  go_enter Tryd.func18, Tryd.ntmps18
  go_wp2_with (go_at_call 29; refine (HW.out _).mono ?_; rintro e w' ⟨rfl, rfl⟩)
  go_ret2
  exact ⟨rfl, rfl⟩

/-- hasBeyond of words that lie somewhere -/
theorem hasBeyond_any (n K : Nat) (A : Option Addr) (c : Nat) (l : List Nat) (h : Wds w A l) (hn : n ≤ 65534) (hK : K = (n + 63) / 64) (hl : l.length = K) (b : Bool) (hb : b = true ↔ ¬ Good n l) :
    Calls Tryd.prog 36 #[.int .i64 (n : Int), .slice A K c] w fun e w' => e = .returned (.bool b) ∧ w = w' := by
  by_cases hr : n % 64 = 0
  · have hg := good_even hK hl hr
    have : b = false := by
      cases b with
      | false => rfl
      | true => exact absurd hg (hb.1 rfl)
    rw [this]
    exact hasBeyond_even n hr hn A K c
  · have hk0 : 0 < K := by omega
    obtain ⟨bb, o, rfl, _, hc⟩ := h.at' (K - 1) (by omega)
    have hx := h.u64 _ (List.getElem_mem (l := l) (n := K - 1) (by omega))
    have := hasBeyond_odd (w := w) n (n % 64) l[K - 1] K rfl hr hn bb o c (by omega) hk0 hc
    have hgd : l.getD (K - 1) 0 = l[K - 1] := by rw [List.getD_eq_getElem?_getD, List.getElem?_eq_getElem (by omega), Option.getD_some]
    have hgl := good_last hK hl hr
    rw [hgd] at hgl
    have : b = !decide (l[K - 1] / 2 ^ (n % 64) = 0) := by
      rw [Bool.eq_iff_iff, hb, hgl]
      simp [hx]
    rw [this]
    assumption

set_option maxRecDepth 100000 in
set_option maxHeartbeats 1000000 in
theorem of_bad (n : Nat) (A : Option Addr) (c : Nat) (l : List Nat) (h : Wds w A l) (hn : n ≤ 65534) (hl : l.length = (n + 63) / 64) (hg : ¬ Good n l) : Calls Tryd.prog 18 #[.int .i64 (n : Int), .slice A l.length c] w fun e w' => e = .returned (.tuple #[.pointer none, .int .i64 2]) ∧ w = w' := by
  have HW := Lib.hid (fun w => wordsOf_any n hn w)
  have HB := Lib.hid (hasBeyond_any n _ A c l h hn rfl hl true (by simp [hg]))
  have h0 : ¬ (n : Int) < 0 := by omega
  have h1 : ¬ (65534 : Int) < (n : Int) := by omega
  rw [hl]
  have hKl : (n + 63) / 64 ≤ 2000 := by omega
  generalize (n + 63) / 64 = K at *
  clear hl h hg
  go_enter Tryd.func18, Tryd.ntmps18
  go_wp2_with (first | (go_at_call 29; refine (HW.out _).mono ?_; rintro e w' ⟨rfl, rfl⟩) | (go_at_call 36; refine HB.out.mono ?_; rintro e w' ⟨rfl, rfl⟩))
  go_ret2
  exact ⟨rfl, rfl⟩

set_option maxRecDepth 100000 in
set_option maxHeartbeats 1000000 in
theorem of_yes (n : Nat) (ad : Addr) (c : Nat) (l : List Nat) (h : Wds w (some ad) l) (hn : n ≤ 65534) (hl : l.length = (n + 63) / 64) (hg : Good n l) : Calls Tryd.prog 18 #[.int .i64 (n : Int), .slice (some ad) l.length c] w (OfR w n l) := by
  have HW := Lib.hid (fun w => wordsOf_any n hn w)
  have HB := Lib.hid (hasBeyond_any n _ (some ad) c l h hn rfl hl false (by simp [hg]))
  have HC := Lib.hid (clone_any ad c l h (by omega))
  have HG := Lib.hid (fun j hj => hg.words h.u64 j hj)
  have HL := Lib.hid hl
  have h0 : ¬ (n : Int) < 0 := by omega
  have h1 : ¬ (65534 : Int) < (n : Int) := by omega
  rw [← hl] at HB HW
  have hKl : l.length ≤ 2000 := by omega
  clear hl h hg
  go_enter Tryd.func18, Tryd.ntmps18
  go_wp2_with (first | (go_at_call 29; refine (HW.out _).mono ?_; rintro e w' ⟨rfl, rfl⟩) | (go_at_call 36; refine HB.out.mono ?_; rintro e w' ⟨rfl, rfl⟩))
  refine HC.out.mono ?_
  rintro e w1 ⟨g, gc, rfl, hgc, hgg, hrow, hbel⟩
  have hrow2 := hrow.congr (g := fun k => .int .u64 (wd (fo n l) k : Int)) (fun i hi => by
    show Value.int .u64 ((l.getD i 0 : Nat) : Int) = Value.int .u64 (wd (fo n l) i : Int)
    rw [← HG.out i hi, List.getD_eq_getElem?_getD, List.getElem?_eq_getElem hi, Option.getD_some])
  have HX := Lib.hid (show OfR w n l (.returned (.tuple #[.pointer (some ⟨w1.heap.size, 0, none⟩), .int .i64 0])) (w1.alloc (.cells #[.int .i64 (n : Int), .slice (some ⟨g, 0, none⟩) l.length gc] 58)) from
    ⟨w1.heap.size, g, gc, rfl, hbel.size, hgg, mp_box hrow2 (fo_far n l) hn HL.out hgc, hbel.alloc hbel.size _⟩)
  clear hgc hgg hrow hbel hrow2
  go_wp2
  go_ret2
  exact HX.out
end
end Bm
end Go.Proofs.YthfnbboambpdgaaDoor
