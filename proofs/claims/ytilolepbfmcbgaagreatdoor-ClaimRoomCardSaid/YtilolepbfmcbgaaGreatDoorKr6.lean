/- Texts laid together: InoMath, InoMay, InoEncode, LinEqual, InoDecode, InoRef, InoRefEnc, InoRefDec, InoLives, SloRef, SloRefDec, SloLives, LinFour, RecMath, RecMay. -/
import Derived.Test.YtilolepbfmcbgaaGreatDoorKr5
import Derived.Test.YtilolepbfmcbgaaGreatDoorKa1
import Derived.Test.YtilolepbfmcbgaaGreatDoorKa2
import Derived.Test.YtilolepbfmcbgaaGreatDoorKa3
import Derived.Test.YtilolepbfmcbgaaGreatDoorKr1
import Derived.Test.YtilolepbfmcbgaaGreatDoorKr2
import Derived.Test.YtilolepbfmcbgaaGreatDoorKr3
import Derived.Test.YtilolepbfmcbgaaGreatDoorKr4
/- An inode's line as a list of words, whether an inode may be, and whose a list is. -/
namespace Go.Proofs.YtilolepbfmcbgaaGreatDoor
open Go.RowKit Go.MapKept
namespace Ino
open Lin

/-- a place of blocks and a size that may be one's that is not free -/
def plc (h s : Int) : Bool := decide ((-1 ≤ h ∧ h ≤ 65533) ∧ (0 ≤ s ∧ s ≤ 268435456) ∧ (h = -1 ↔ s = 0))

/-- it may be -/
def May (k h s : Int) : Prop := (k = 0 ∧ h = -1 ∧ s = 0) ∨ ((k = 1 ∨ k = 2 ∧ s % 64 = 0) ∧ (-1 ≤ h ∧ h ≤ 65533) ∧ (0 ≤ s ∧ s ≤ 268435456) ∧ (h = -1 ↔ s = 0))
instance (k h s : Int) : Decidable (May k h s) := by unfold May; infer_instance
def may (k h s : Int) : Bool := decide (May k h s)

/-- the first word -/
def nums (k p : Nat) : Nat := k + 65536 * p
/-- the words ahead of the sum -/
def front (k p s : Nat) : List Nat := [nums k p, s, 0, 0, 0, 0, 0]
/-- their sum -/
def sum (k p s : Nat) : Nat := Crc.S32 (Crc.wflat (front k p s))
/-- the free one's line -/
def zero : List Nat := [0, 0, 0, 0, 0, 0, 0, 0]
/-- the line of one that isn't free -/
def full (k p s : Nat) : List Nat := [nums k p, s, 0, 0, 0, 0, 0, sum k p s]
/-- the line of an inode whose Head is p less 1 -/
def ln (k p s : Nat) : List Nat := if k = 0 then zero else full k p s

theorem full_len (k p s : Nat) : (full k p s).length = 8 := rfl
theorem front_len (k p s : Nat) : (front k p s).length = 7 := rfl
theorem ln_len (k p s : Nat) : (ln k p s).length = 8 := by
  unfold ln
  split <;> rfl
theorem ln_zero (p s : Nat) : ln 0 p s = zero := rfl
theorem ln_full {k : Nat} (h : k ≠ 0) (p s : Nat) : ln k p s = full k p s := if_neg h

theorem nums_lt {k p : Nat} (hk : k < 65536) (hp : p < 65536) : nums k p < 4294967296 := by unfold nums; omega
theorem sum_lt (k p s : Nat) : sum k p s < 4294967296 := s32_lt _

theorem front_u64 {k p s : Nat} (hk : k < 65536) (hp : p < 65536) (hs : s < 18446744073709551616) : ∀ x ∈ front k p s, x < 18446744073709551616 := by
  intro x hx
  have h1 := nums_lt hk hp
  simp only [front, List.mem_cons, List.not_mem_nil, or_false] at hx
  rcases hx with rfl | rfl | rfl | rfl | rfl | rfl | rfl <;> omega
theorem full_u64 {k p s : Nat} (hk : k < 65536) (hp : p < 65536) (hs : s < 18446744073709551616) : ∀ x ∈ full k p s, x < 18446744073709551616 := by
  intro x hx
  have h1 := nums_lt hk hp
  have h2 := sum_lt k p s
  simp only [full, List.mem_cons, List.not_mem_nil, or_false] at hx
  rcases hx with rfl | rfl | rfl | rfl | rfl | rfl | rfl | rfl <;> omega
theorem zero_u64 : ∀ x ∈ zero, x < 18446744073709551616 := by decide

/-- the numbers' bounds -/
theorem may_lt {k p s : Nat} (h : may k ((p : Int) - 1) s = true) : k < 3 ∧ p < 65535 ∧ s ≤ 268435456 := by
  have h := of_decide_eq_true h
  unfold May at h
  omega
theorem may_free {p s : Nat} (h : may ((0 : Nat) : Int) ((p : Int) - 1) s = true) : p = 0 ∧ s = 0 := by
  have h := of_decide_eq_true h
  unfold May at h
  omega
theorem may_nat {k h s : Int} (e : may k h s = true) : ∃ k' p s' : Nat, k = (k' : Int) ∧ h = (p : Int) - 1 ∧ s = (s' : Int) := by
  have e := of_decide_eq_true e
  unfold May at e
  obtain ⟨k, rfl⟩ := Int.eq_ofNat_of_zero_le (show 0 ≤ k by omega)
  obtain ⟨p, hp⟩ := Int.eq_ofNat_of_zero_le (show 0 ≤ h + 1 by omega)
  obtain ⟨s, rfl⟩ := Int.eq_ofNat_of_zero_le (show 0 ≤ s by omega)
  exact ⟨k, p, s, rfl, by omega, rfl⟩

theorem ln_u64 {k p s : Nat} (h : may k ((p : Int) - 1) s = true) : ∀ x ∈ ln k p s, x < 18446744073709551616 := by
  obtain ⟨h1, h2, h3⟩ := may_lt h
  unfold ln
  split
  · exact zero_u64
  · exact full_u64 (by omega) (by omega) (by omega)

theorem pk_nums {k p : Nat} (hk : k < 65536) (hp : p < 65536) : Pack.pk 0 0 [⟨16, k⟩, ⟨16, p⟩] = some (nums k p, 32) := by
  unfold nums
  simp [Pack.pk, hk, hp]
  omega

theorem split_nums (x : Nat) : Pack.split x [16, 16] = if x < 4294967296 then some [x % 65536, x / 65536 % 65536] else none := by
  have h : Pack.tot 0 [16, 16] = some 32 := by decide
  unfold Pack.split
  rw [h]
  have e : (2 : Nat) ^ 32 = 4294967296 := rfl
  simp only [e]
  by_cases hx : x < 4294967296
  · have : x / 4294967296 = 0 := by omega
    simp [hx, this, Pack.sp]
  · have : ¬ x / 4294967296 = 0 := by omega
    simp [hx, this]

/-- whose it is: the kind, the Head and 1, the size -/
def dec (l : List Nat) : Option (Nat × Nat × Nat) :=
  let x : Nat := l[0]?.getD 0
  let s : Nat := l[1]?.getD 0
  let k : Nat := x % 65536
  let p : Nat := x / 65536
  if l.length = 8 ∧ x < 4294967296 ∧ may k ((p : Int) - 1) s = true ∧ l = ln k p s then some (k, p, s) else none

theorem dec_ln {k p s : Nat} (h : may k ((p : Int) - 1) s = true) : dec (ln k p s) = some (k, p, s) := by
  obtain ⟨h1, h2, h3⟩ := may_lt h
  by_cases hk : k = 0
  · subst hk
    obtain ⟨rfl, rfl⟩ := may_free h
    unfold dec
    exact if_pos ⟨rfl, by decide, h, rfl⟩
  · have h4 := nums_lt (k := k) (p := p) (by omega) (by omega)
    have e1 : nums k p % 65536 = k := by unfold nums; omega
    have e2 : nums k p / 65536 = p := by unfold nums; omega
    have e : (ln k p s)[0]?.getD 0 = nums k p := by rw [ln_full hk]; rfl
    have e' : (ln k p s)[1]?.getD 0 = s := by rw [ln_full hk]; rfl
    unfold dec
    simp only [e, e', e1, e2]
    exact if_pos ⟨ln_len k p s, h4, h, trivial⟩

theorem dec_some {l : List Nat} {k p s : Nat} (h : dec l = some (k, p, s)) : may k ((p : Int) - 1) s = true ∧ l = ln k p s := by
  unfold dec at h
  simp only at h
  split at h
  · rename_i hc
    injection h with h
    injection h with h1 h2
    injection h2 with h2 h3
    subst h1 h2 h3
    exact hc.2.2
  · cases h

/-- what is no line of one that may be -/
theorem dec_none {l : List Nat} (h : ∀ k p s : Nat, may k ((p : Int) - 1) s = true → l ≠ ln k p s) : dec l = none := by
  cases e : dec l with
  | none => rfl
  | some q =>
    obtain ⟨k, p, s⟩ := q
    have := dec_some e
    exact absurd this.2 (h k p s this.1)
end Ino
end Go.Proofs.YtilolepbfmcbgaaGreatDoor
/- None, within, placeMay, May, walked. -/
namespace Go.Proofs.YtilolepbfmcbgaaGreatDoor
open Go.RowKit Go.MapKept
namespace Ino
open Lin

theorem none_any (w : World) : Calls Tryz.prog 18 #[] w fun r w' => r = .returned (.agg #[.int .i64 0, .int .i64 (-1), .int .i64 0]) ∧ Below w.heap.size w w' := by
  go_enter Tryz.func18, Tryz.ntmps18
  go_wp2
  refine bodyPost_ret (v := .agg #[.int .i64 0, .int .i64 (-1), .int .i64 0]) ?_ rfl ⟨rfl, ?_⟩
  · simp [results, Tryz.results18, go_sem]
  · first
    | exact (Below.refl _ _).alloc (Nat.le_refl _) _
    | exact ((((Below.refl _ _).alloc (Nat.le_refl _) _).setCell (by simp) _).setCell (by simp) _).setCell (by simp) _

theorem within_any (w : World) (n a b : Int) :
    Calls Tryz.prog 160 #[.int .i64 n, .int .i64 a, .int .i64 b] w fun e w' => e = .returned (.bool (decide (a ≤ n ∧ n ≤ b))) ∧ w = w' := by
  go_enter Tryz.func160, Tryz.ntmps160
  go_wp2
  · rename_i h
    go_ret
    exact ⟨by simp [h], rfl⟩
  · rename_i h
    go_ret
    refine ⟨?_, rfl⟩
    have : ¬ a ≤ n := by omega
    simp [this]

set_option maxHeartbeats 1000000 in
theorem place_any (w : World) (k h s : Int) :
    Calls Tryz.prog 132 #[.agg #[.int .i64 k, .int .i64 h, .int .i64 s]] w fun r w' => r = .returned (.bool (plc h s)) ∧ Below w.heap.size w w' := by
  have HB := Lib.hid ((Below.refl w.heap.size w).alloc (Nat.le_refl _) (.cells #[.int .i64 k, .int .i64 h, .int .i64 s] 58))
  have HH := Lib.hid (fun w => within_any w h (-1) 65533)
  have HS := Lib.hid (fun w => within_any w s 0 268435456)
  by_cases h1 : -1 ≤ h ∧ h ≤ 65533
  · by_cases h2 : 0 ≤ s ∧ s ≤ 268435456
    · have HE := Lib.hid (show plc h s = ((h == -1) == (s == 0)) by
        unfold plc
        rw [Bool.eq_iff_iff]
        simp only [decide_eq_true_eq, beq_iff_eq]
        rw [Bool.eq_iff_iff]
        simp only [beq_iff_eq]
        constructor
        · exact fun h => h.2.2
        · exact fun h => ⟨h1, h2, h⟩)
      have H1 := Lib.hid (decide_eq_true h1)
      have H2 := Lib.hid (decide_eq_true h2)
      clear h1 h2
      go_enter Tryz.func132, Tryz.ntmps132
      go_wp2_with fail
      refine (HH.out _).mono ?_
      rintro e w' ⟨rfl, rfl⟩
      rw [H1.out]
      go_wp2_with fail
      refine (HS.out _).mono ?_
      rintro e w' ⟨rfl, rfl⟩
      rw [H2.out]
      go_wp2
      go_ret
      exact ⟨by rw [HE.out]; rfl, HB.out⟩
    · have HE := Lib.hid (show plc h s = false by unfold plc; exact decide_eq_false (fun h => h2 h.2.1))
      have H1 := Lib.hid (decide_eq_true h1)
      have H2 := Lib.hid (decide_eq_false h2)
      clear h1 h2
      go_enter Tryz.func132, Tryz.ntmps132
      go_wp2_with fail
      refine (HH.out _).mono ?_
      rintro e w' ⟨rfl, rfl⟩
      rw [H1.out]
      go_wp2_with fail
      refine (HS.out _).mono ?_
      rintro e w' ⟨rfl, rfl⟩
      rw [H2.out]
      go_wp2
      go_ret
      exact ⟨by rw [HE.out]; rfl, HB.out⟩
  · have HE := Lib.hid (show plc h s = false by unfold plc; exact decide_eq_false (fun h => h1 h.1))
    have H1 := Lib.hid (decide_eq_false h1)
    clear h1
    go_enter Tryz.func132, Tryz.ntmps132
    go_wp2_with fail
    refine (HH.out _).mono ?_
    rintro e w' ⟨rfl, rfl⟩
    rw [H1.out]
    go_wp2
    go_ret
    exact ⟨by rw [HE.out]; rfl, HB.out⟩

set_option maxHeartbeats 1000000 in
theorem may_any (w : World) (k h s : Int) :
    Calls Tryz.prog 91 #[.agg #[.int .i64 k, .int .i64 h, .int .i64 s]] w fun r w' => r = .returned (.bool (may k h s)) ∧ Below w.heap.size w w' := by
  have HB := Lib.hid ((Below.refl w.heap.size w).alloc (Nat.le_refl _) (.cells #[.int .i64 k, .int .i64 h, .int .i64 s] 58))
  have HX := Lib.hid (boxed w k h s 58)
  have HN := Lib.hid none_any
  have HP := Lib.hid (fun w => place_any w k h s)
  by_cases h0 : k = 0
  · subst h0
    by_cases h1 : h = -1
    · subst h1
      by_cases h2 : s = 0
      · subst h2
        have HE := Lib.hid (show may 0 (-1) 0 = true by decide)
        go_enter Tryz.func91, Tryz.ntmps91
        go_wp2
        generalize w.alloc (.cells #[.int .i64 0, .int .i64 (-1), .int .i64 0] 58) = W at *
        have hc0 := HX.out.c0
        have hc1 := HX.out.c1
        have hc2 := HX.out.c2
        go_region_held3 (fun W' => W'.cell? ⟨w.heap.size, 0, none⟩ = some (.int .i64 0) ∧ W'.cell? ⟨w.heap.size, 1, none⟩ = some (.int .i64 (-1)) ∧ W'.cell? ⟨w.heap.size, 2, none⟩ = some (.int .i64 0)) (go_keep)
          (first
          | (go_at_call 18
             with_reducible refine (HN.out _).mono ?_
             rintro e w1 ⟨rfl, hb⟩
             have HY := Lib.hid (HX.out.drew.keep hb)
             have hk0 := HY.out.c0
             have hk1 := HY.out.c1
             have hk2 := HY.out.c2
             have HB1 := Lib.hid (HB.out.drew.trans (hb.mono HB.out.drew.size))
             clear hb))
        go_wp2
        go_ret
        exact ⟨by rw [HE.out]; rfl, HB1.out⟩
      · have HE := Lib.hid (show may 0 (-1) s = false by unfold may May; exact decide_eq_false (by omega))
        go_enter Tryz.func91, Tryz.ntmps91
        go_wp2
        generalize w.alloc (.cells #[.int .i64 0, .int .i64 (-1), .int .i64 s] 58) = W at *
        have hc0 := HX.out.c0
        have hc1 := HX.out.c1
        have hc2 := HX.out.c2
        go_region_held3 (fun W' => W'.cell? ⟨w.heap.size, 0, none⟩ = some (.int .i64 0) ∧ W'.cell? ⟨w.heap.size, 1, none⟩ = some (.int .i64 (-1)) ∧ W'.cell? ⟨w.heap.size, 2, none⟩ = some (.int .i64 s)) (go_keep)
          (first
          | (go_at_call 18
             with_reducible refine (HN.out _).mono ?_
             rintro e w1 ⟨rfl, hb⟩
             have HY := Lib.hid (HX.out.drew.keep hb)
             have hk0 := HY.out.c0
             have hk1 := HY.out.c1
             have hk2 := HY.out.c2
             have HB1 := Lib.hid (HB.out.drew.trans (hb.mono HB.out.drew.size))
             clear hb))
        go_wp2
        go_ret
        exact ⟨by rw [HE.out]; rfl, HB1.out⟩
    · have HE := Lib.hid (show may 0 h s = false by unfold may May; exact decide_eq_false (by omega))
      go_enter Tryz.func91, Tryz.ntmps91
      go_wp2
      generalize w.alloc (.cells #[.int .i64 0, .int .i64 h, .int .i64 s] 58) = W at *
      have hc0 := HX.out.c0
      have hc1 := HX.out.c1
      have hc2 := HX.out.c2
      go_region_held3 (fun W' => W'.cell? ⟨w.heap.size, 0, none⟩ = some (.int .i64 0) ∧ W'.cell? ⟨w.heap.size, 1, none⟩ = some (.int .i64 h) ∧ W'.cell? ⟨w.heap.size, 2, none⟩ = some (.int .i64 s)) (go_keep)
        (first
        | (go_at_call 18
           with_reducible refine (HN.out _).mono ?_
           rintro e w1 ⟨rfl, hb⟩
           have HY := Lib.hid (HX.out.drew.keep hb)
           have hk0 := HY.out.c0
           have hk1 := HY.out.c1
           have hk2 := HY.out.c2
           have HB1 := Lib.hid (HB.out.drew.trans (hb.mono HB.out.drew.size))
           clear hb))
      go_wp2
      go_ret
      exact ⟨by rw [HE.out]; rfl, HB1.out⟩
  · by_cases h1 : k = 1
    · subst h1
      have HE := Lib.hid (show may 1 h s = plc h s by unfold may May plc; simp)
      go_enter Tryz.func91, Tryz.ntmps91
      go_wp2_with fail
      refine (HP.out _).mono ?_
      rintro e w' ⟨rfl, hb⟩
      have HB1 := Lib.hid (HB.out.trans (hb.mono HB.out.size))
      clear hb
      go_wp2
      go_ret
      exact ⟨by rw [HE.out]; rfl, HB1.out⟩
    · by_cases h2 : k = 2
      · subst h2
        cases hp : plc h s with
        | true =>
          have hs := of_decide_eq_true (show decide ((-1 ≤ h ∧ h ≤ 65533) ∧ (0 ≤ s ∧ s ≤ 268435456) ∧ (h = -1 ↔ s = 0)) = true from hp)
          have HE := Lib.hid (show may 2 h s = (s % 64 == 0) by
            unfold may May
            by_cases e : s % 64 = 0 <;> simp [hs, e])
          have HQ := Lib.hid hp
          have hs0 : 0 ≤ s := hs.2.1.1
          have hs1 : s ≤ 268435456 := hs.2.1.2
          clear hs hp
          go_enter Tryz.func91, Tryz.ntmps91
          go_wp2_with fail
          refine (HP.out _).mono ?_
          rintro e w1 ⟨rfl, hb⟩
          rw [HQ.out]
          have HB1 := Lib.hid (HB.out.trans (hb.mono HB.out.size))
          have HX1 := Lib.hid (HX.out.keep hb)
          have hc2 := HX1.out.c2
          clear hb
          go_wp2
          go_ret
          exact ⟨by rw [HE.out]; rfl, HB1.out⟩
        | false =>
          have HE := Lib.hid (show may 2 h s = false by
            have hs := of_decide_eq_false (show decide ((-1 ≤ h ∧ h ≤ 65533) ∧ (0 ≤ s ∧ s ≤ 268435456) ∧ (h = -1 ↔ s = 0)) = false from hp)
            unfold may May
            exact decide_eq_false (fun h => by
              rcases h with h | h
              · exact absurd h.1 (by decide)
              · exact hs h.2))
          have HQ := Lib.hid hp
          clear hp
          go_enter Tryz.func91, Tryz.ntmps91
          go_wp2_with fail
          refine (HP.out _).mono ?_
          rintro e w1 ⟨rfl, hb⟩
          rw [HQ.out]
          have HB1 := Lib.hid (HB.out.trans (hb.mono HB.out.size))
          clear hb
          go_wp2
          go_ret
          exact ⟨by rw [HE.out]; rfl, HB1.out⟩
      · have HE := Lib.hid (show may k h s = false by
          unfold may May
          exact decide_eq_false (fun h => by
            rcases h with h | h
            · exact h0 h.1
            · rcases h.1 with h | h
              · exact h1 h
              · exact h2 h.1))
        go_enter Tryz.func91, Tryz.ntmps91
        go_wp2
        go_ret
        exact ⟨by rw [HE.out]; rfl, HB.out⟩
end Ino
end Go.Proofs.YtilolepbfmcbgaaGreatDoor
/- The program's line of an inode: Encode, walked. -/
namespace Go.Proofs.YtilolepbfmcbgaaGreatDoor
open Go.RowKit Go.MapKept
namespace Ino
open Lin

theorem field_any (w : World) (n : Nat) (h : n < 65536) :
    Calls Tryz.prog 93 #[.int .i64 (n : Int)] w fun r w' => r = .returned (.agg #[.int .i64 16, .int .u64 (n : Int)]) ∧ Below w.heap.size w w' := by
  go_enter Tryz.func93, Tryz.ntmps93
  go_wp2
  refine bodyPost_ret (v := .agg #[.int .i64 16, .int .u64 (n : Int)]) ?_ rfl ⟨rfl, ?_⟩
  · simp [results, Tryz.results93, go_sem]
  · first
    | exact (Below.refl _ _).alloc (Nat.le_refl _) _
    | exact (((Below.refl _ _).alloc (Nat.le_refl _) _).setCell (by simp) _).setCell (by simp) _

theorem nums_any (w : World) {n m : Nat} (hn : n < 65536) (hm : m < 65536) : Calls Tryz.prog 92 #[.slice (some ⟨w.heap.size, 0, none⟩) 2 2] (w.alloc (.cells #[.int .i64 16, .int .u64 (n : Int), .int .i64 16, .int .u64 (m : Int)] 162)) fun e w' => e = .returned (.tuple #[.int .u64 (nums n m : Nat), .bool true]) ∧ Below w.heap.size w w' := by
  refine (Pack.pack_any _ 2 _ (fds_two w hn hm)).mono ?_
  rintro e w' ⟨rfl, hb⟩
  rw [pk_nums hn hm]
  have hb0 := (Below.refl w.heap.size w).alloc (Nat.le_refl _) (.cells #[.int .i64 16, .int .u64 (n : Int), .int .i64 16, .int .u64 (m : Int)] 162)
  exact ⟨rfl, hb0.trans (hb.mono hb0.size)⟩

theorem encode_no (w : World) (k h s : Int) (hm : may k h s = false) :
    Calls Tryz.prog 61 #[.agg #[.int .i64 k, .int .i64 h, .int .i64 s]] w fun r w' => r = .returned (.tuple #[.slice none 0 0, .int .i64 1]) ∧ Below w.heap.size w w' := by
  have HM := Lib.hid (fun w => may_any w k h s)
  have HE := Lib.hid hm
  clear hm
  have HB := Lib.hid ((Below.refl w.heap.size w).alloc (Nat.le_refl _) (.cells #[.int .i64 k, .int .i64 h, .int .i64 s] 58))
  go_enter Tryz.func61, Tryz.ntmps61
  go_wp2_with fail
  refine (HM.out _).mono ?_
  rintro e w' ⟨rfl, hb⟩
  rw [HE.out]
  have HB1 := Lib.hid (HB.out.trans (hb.mono HB.out.size))
  clear hb
  go_wp2
  go_ret2
  exact ⟨rfl, HB1.out⟩

theorem set_nums (x : Nat) (j : Nat) (_h : j < 8) : (if j = 0 then x else ([] : List Nat)[j]?.getD 0) = [x][j]?.getD 0 := by
  match j with
  | 0 => rfl
  | j + 1 => simp
theorem set_size (x y : Nat) (j : Nat) (_h : j < 8) : (if j = 1 then y else [x][j]?.getD 0) = [x, y][j]?.getD 0 := by
  match j with
  | 0 => rfl
  | 1 => rfl
  | j + 2 => simp
theorem set_sum (x y z : Nat) (j : Nat) (h : j < 8) : (if j = 7 then z else [x, y][j]?.getD 0) = [x, y, 0, 0, 0, 0, 0, z][j]?.getD 0 := by
  have : j = 0 ∨ j = 1 ∨ j = 2 ∨ j = 3 ∨ j = 4 ∨ j = 5 ∨ j = 6 ∨ j = 7 := by omega
  rcases this with rfl | rfl | rfl | rfl | rfl | rfl | rfl | rfl <;> rfl

theorem front_crc {w : World} {g k p s : Nat} (h : w.rowIs g 121 8 (rowOf [nums k p, s])) (hk : k < 65536) (hp : p < 65536) (hs : s < 18446744073709551616) : Crc.Wds w (some ⟨g, 0, none⟩) (front k p s) := by
  refine row_crc h (by rw [front_len]; omega) (front_u64 hk hp hs) ?_
  intro j hj
  have : j < 7 := hj
  have : j = 0 ∨ j = 1 ∨ j = 2 ∨ j = 3 ∨ j = 4 ∨ j = 5 ∨ j = 6 := by omega
  rcases this with rfl | rfl | rfl | rfl | rfl | rfl | rfl <;> rfl

set_option maxHeartbeats 2000000 in
theorem encode_free (w : World) :
    Calls Tryz.prog 61 #[.agg #[.int .i64 0, .int .i64 (-1), .int .i64 0]] w fun r w' => ∃ g : Nat, w.heap.size ≤ g ∧ r = .returned (.tuple #[.slice (some ⟨g, 0, none⟩) 8 8, .int .i64 0]) ∧ w'.rowIs g 121 8 (rowOf zero) ∧ Below w.heap.size w w' := by
  have HM := Lib.hid (fun w => may_any w 0 (-1) 0)
  have HE := Lib.hid (show may 0 (-1) 0 = true by decide)
  have HN := Lib.hid none_any
  have HB := Lib.hid ((Below.refl w.heap.size w).alloc (Nat.le_refl _) (.cells #[.int .i64 0, .int .i64 (-1), .int .i64 0] 58))
  have HX := Lib.hid (boxed w 0 (-1) 0 58)
  go_enter Tryz.func61, Tryz.ntmps61
  go_wp2_with fail
  refine (HM.out _).mono ?_
  rintro e w1 ⟨rfl, hb⟩
  rw [HE.out]
  have HB1 := Lib.hid (HB.out.trans (hb.mono HB.out.size))
  have HX1 := Lib.hid (HX.out.keep hb)
  have hsz : w.heap.size < w1.heap.size := HX1.out.lt
  clear hb HX
  have hmk := run_make_row' (P := Tryz.prog) 22 121 _ 8 Tryz.underlying22 Pack.u64_info rfl .i64 .i64 8 (by omega) (by omega) w1
  rw [show ((8 : Nat) : Int) = 8 from rfl] at hmk
  have hb2 := (Below.refl w1.heap.size w1).alloc (Nat.le_refl _) (.cells (madeCells #[.int .u64 0] 8) 121)
  have HE2 := Lib.hid (show En w w.heap.size w.heap.size w1.heap.size 0 (-1) 0 [] (w1.alloc (.cells (madeCells #[.int .u64 0] 8) 121)) from ⟨HX1.out.keep hb2, row_made w1, by omega, HB1.out.trans (hb2.mono HB1.out.size), HB1.out.size⟩)
  clear hb2 HX1 HB1 HB HM HE
  go_wp2
  generalize w1.alloc (.cells (madeCells #[.int .u64 0] 8) 121) = w2 at *
  generalize hg : w1.heap.size = g at *
  clear hg hmk
  have hs2 : w.heap.size < w2.heap.size := HE2.out.box.lt
  have hc0 := HE2.out.box.c0
  have hc1 := HE2.out.box.c1
  have hc2 := HE2.out.box.c2
  go_region_held3 (fun W' => W'.cell? ⟨w.heap.size, 0, none⟩ = some (.int .i64 0) ∧ W'.cell? ⟨w.heap.size, 1, none⟩ = some (.int .i64 (-1)) ∧ W'.cell? ⟨w.heap.size, 2, none⟩ = some (.int .i64 0)) (go_keep)
    (first
    | (go_at_call 18
       with_reducible refine (HN.out _).mono ?_
       rintro e w3 ⟨rfl, hb⟩
       have HE3 := Lib.hid (HE2.out.drew.keep hb (Nat.le_of_lt HE2.out.drew.box.lt))
       have hk0 := HE3.out.box.c0
       have hk1 := HE3.out.box.c1
       have hk2 := HE3.out.box.c2
       clear hb))
  go_wp2
  go_ret2
  exact ⟨g, HE3.out.nN, rfl, row_zero HE3.out.row, HE3.out.below⟩

set_option maxHeartbeats 2000000 in
set_option maxRecDepth 100000 in
theorem encode_full (w : World) (k p s : Nat) (h : Int) (hh : h = (p : Int) - 1) (hk0 : k ≠ 0) (hm : may k ((p : Int) - 1) s = true) :
    Calls Tryz.prog 61 #[.agg #[.int .i64 (k : Int), .int .i64 h, .int .i64 (s : Int)]] w fun r w' => ∃ g : Nat, w.heap.size ≤ g ∧ r = .returned (.tuple #[.slice (some ⟨g, 0, none⟩) 8 8, .int .i64 0]) ∧ w'.rowIs g 121 8 (rowOf (full k p s)) ∧ Below w.heap.size w w' := by
  obtain ⟨h1, h2, h3⟩ := may_lt hm
  have HM := Lib.hid (fun w => may_any w k h s)
  have HE := Lib.hid (show may k h s = true by rw [hh]; exact hm)
  have HNN := Lib.hid none_any
  have HN1 := Lib.hid (fun w => field_any w k (by omega))
  have HN2 := Lib.hid (fun w => field_any w p (by omega))
  have HP := Lib.hid (fun w => nums_any w (n := k) (m := p) (by omega) (by omega))
  have HW := Lib.hid (show IntKind.i64.wrap (h + 1) = (p : Int) by rw [IntKind.wrap_i64]; omega)
  have hki : ¬ (k : Int) = 0 := by omega
  have hs64 : s < 18446744073709551616 := by omega
  have hk64 : k < 65536 := by omega
  have hp64 : p < 65536 := by omega
  clear hm hh
  have HB := Lib.hid ((Below.refl w.heap.size w).alloc (Nat.le_refl _) (.cells #[.int .i64 (k : Int), .int .i64 h, .int .i64 (s : Int)] 58))
  have HX := Lib.hid (boxed w k h s 58)
  go_enter Tryz.func61, Tryz.ntmps61
  go_wp2_with fail
  refine (HM.out _).mono ?_
  rintro e w1 ⟨rfl, hb⟩
  rw [HE.out]
  have HB1 := Lib.hid (HB.out.trans (hb.mono HB.out.size))
  have HX1 := Lib.hid (HX.out.keep hb)
  have hsz : w.heap.size < w1.heap.size := HX1.out.lt
  clear hb HX
  have hmk := run_make_row' (P := Tryz.prog) 22 121 _ 8 Tryz.underlying22 Pack.u64_info rfl .i64 .i64 8 (by omega) (by omega) w1
  rw [show ((8 : Nat) : Int) = 8 from rfl] at hmk
  have hb2 := (Below.refl w1.heap.size w1).alloc (Nat.le_refl _) (.cells (madeCells #[.int .u64 0] 8) 121)
  have HE2 := Lib.hid (show En w w.heap.size w.heap.size w1.heap.size k h s [] (w1.alloc (.cells (madeCells #[.int .u64 0] 8) 121)) from ⟨HX1.out.keep hb2, row_made w1, by omega, HB1.out.trans (hb2.mono HB1.out.size), HB1.out.size⟩)
  clear hb2 HX1 HB1 HB HM HE
  go_wp2
  generalize w1.alloc (.cells (madeCells #[.int .u64 0] 8) 121) = w2 at *
  generalize hg : w1.heap.size = g at *
  clear hg hmk
  have hs2 : w.heap.size < w2.heap.size := HE2.out.box.lt
  have hc0 := HE2.out.box.c0
  have hc1 := HE2.out.box.c1
  have hc2 := HE2.out.box.c2
  go_region_held3 (fun W' => W'.cell? ⟨w.heap.size, 0, none⟩ = some (.int .i64 (k : Int)) ∧ W'.cell? ⟨w.heap.size, 1, none⟩ = some (.int .i64 h) ∧ W'.cell? ⟨w.heap.size, 2, none⟩ = some (.int .i64 (s : Int))) (go_keep)
    (first
    | (go_at_call 18
       with_reducible refine (HNN.out _).mono ?_
       rintro e w3 ⟨rfl, hb⟩
       have HE3 := Lib.hid (HE2.out.drew.keep hb (Nat.le_of_lt HE2.out.drew.box.lt))
       have hk0 := HE3.out.box.c0
       have hk1 := HE3.out.box.c1
       have hk2 := HE3.out.box.c2
       clear hb))
  clear hc0 hc1 hc2 hk0 hk1 hk2 HE2 HNN hs2
  go_wp2
  have hs4 : w.heap.size < w3.heap.size := HE3.out.box.lt
  have hc0 := HE3.out.box.c0
  have hc1 := HE3.out.box.c1
  have hc2 := HE3.out.box.c2
  have hw := HW.out
  go_region_held3 (fun W' => W'.cell? ⟨w.heap.size, 0, none⟩ = some (.int .i64 (k : Int)) ∧ W'.cell? ⟨w.heap.size, 1, none⟩ = some (.int .i64 h) ∧ W'.cell? ⟨w.heap.size, 2, none⟩ = some (.int .i64 (s : Int))) (go_keep)
    (first
    | (go_at_call 93
       with_reducible refine (HN1.out _).mono ?_
       rintro e w5 ⟨rfl, hb⟩
       have HE5 := Lib.hid (HE3.out.drew.keep hb (Nat.le_of_lt HE3.out.drew.box.lt))
       have hk0 := HE5.out.box.c0
       have hk1 := HE5.out.box.c1
       have hk2 := HE5.out.box.c2
       clear hb)
    | (go_at_call 93
       with_reducible refine (HN2.out _).mono ?_
       rintro e w6 ⟨rfl, hb⟩
       have HE6 := Lib.hid (HE5.out.keep hb (Nat.le_of_lt HE5.out.box.lt))
       have hl0 := HE6.out.box.c0
       have hl1 := HE6.out.box.c1
       have hl2 := HE6.out.box.c2
       clear hb)
    | (go_at_call 92
       with_reducible refine (HP.out _).mono ?_
       rintro e w8 ⟨rfl, hb⟩
       have HE8 := Lib.hid (HE6.out.keep hb (Nat.le_of_lt HE6.out.box.lt))
       have hn0 := HE8.out.box.c0
       have hn1 := HE8.out.box.c1
       have hn2 := HE8.out.box.c2
       have hn3 := HE8.out.row.cell (i := 0) (by omega)
       have hn4 := HE8.out.row.frozen 0
       have HE9 := Lib.hid (HE8.out.set 0 (nums k p) (set_nums _))
       have hq0 := HE9.out.box.c0
       have hq1 := HE9.out.box.c1
       have hq2 := HE9.out.box.c2
       clear hb))
  clear hk0 hk1 hk2 hl0 hl1 hl2 hn0 hn1 hn2 hn3 hn4 hq0 hq1 hq2 hc0 hc1 hc2 HE5 HE6 HE8 HE3 HN1 HN2 HP hw hs4
  generalize w8.setCell ⟨g, 0, none⟩ (.int .u64 (nums k p : Int)) = w9 at *
  have hs9 : w.heap.size < w9.heap.size := HE9.out.box.lt
  have hc2 := HE9.out.box.c2
  have hrc := HE9.out.row.cell (i := 1) (by omega)
  have hrf := HE9.out.row.frozen 1
  have HE10 := Lib.hid (HE9.out.set 1 s (set_size _ _))
  have HC := Lib.hid (Crc.words32_any (some ⟨g, 0, none⟩) 8 (front k p s) (front_crc HE10.out.row hk64 hp64 hs64))
  have hsl := sum_lt k p s
  have hrc7 := HE10.out.row.cell (i := 7) (by omega)
  have hrf7 := HE10.out.row.frozen 7
  go_wp2_with fail
  refine HC.out.mono ?_
  rintro e w' ⟨rfl, rfl⟩
  rw [show Crc.S32 (Crc.wflat (front k p s)) = sum k p s from rfl]
  clear HC hc2 hrc hrf
  generalize w9.setCell ⟨g, 1, none⟩ (.int .u64 (s : Int)) = w10 at *
  go_wp2
  go_ret2
  have h11 := HE10.out.set 7 (sum k p s) (set_sum _ _ _)
  exact ⟨g, h11.nN, rfl, h11.row, h11.below⟩

theorem encode_yes (w : World) (k p s : Nat) (h : Int) (hh : h = (p : Int) - 1) (hm : may k ((p : Int) - 1) s = true) :
    Calls Tryz.prog 61 #[.agg #[.int .i64 (k : Int), .int .i64 h, .int .i64 (s : Int)]] w fun r w' => ∃ g : Nat, w.heap.size ≤ g ∧ r = .returned (.tuple #[.slice (some ⟨g, 0, none⟩) 8 8, .int .i64 0]) ∧ w'.rowIs g 121 8 (rowOf (ln k p s)) ∧ Below w.heap.size w w' := by
  by_cases hk : k = 0
  · subst hk
    obtain ⟨rfl, rfl⟩ := may_free hm
    subst hh
    rw [ln_zero]
    exact encode_free w
  · rw [ln_full hk]
    exact encode_full w k p s h hh hk hm
end Ino
end Go.Proofs.YtilolepbfmcbgaaGreatDoor
/- Whether two lists of words are the same: the library's Equal. -/
namespace Go.Proofs.YtilolepbfmcbgaaGreatDoor
open Go.RowKit Go.MapKept
namespace Lin
open Pack (Wds)

section
variable {w : World}
set_option maxHeartbeats 1600000 in
set_option maxRecDepth 100000 in
theorem equal_any (A B : Option Addr) (c d : Nat) (l m : List Nat) (h : Wds w A l) (g : Wds w B m) :
    Calls Tryz.prog 154 #[.slice A l.length c, .slice B m.length d] w fun e w' => e = .returned (.bool (decide (l = m))) ∧ ∃ n, w' = w.drewN n := by
  have hn := h.len
  have hm := g.len
  have H := Lib.hid h
  have G := Lib.hid g
  clear h g
  by_cases hlen : l.length = m.length
  · go_enter Tryz.func154, Tryz.ntmps154
    go_wp2
    go_loopw [13] (fun i wr => ∃ (k n : Nat), k ≤ l.length ∧ i = .int .i64 (k : Int) ∧ l.take k = m.take k ∧ wr = w.drewN n) (fun i _ => l.length - (intOf i).toNat)
    case atStart => exact ⟨0, 0, Nat.zero_le _, rfl, rfl, rfl⟩
    case round =>
      obtain ⟨k, n, hk, rfl, hs, rfl⟩ := hrel
      have HS := Lib.hid hs
      clear hs
      by_cases hlt : k < l.length
      · have hlt2 : k < m.length := by omega
        obtain ⟨b, o, rfl, hb, hcell⟩ := H.out.at' k hlt
        obtain ⟨b2, o2, rfl, hb2, hcell2⟩ := G.out.at' k hlt2
        have hi0 : (0 : Int) ≤ (k : Int) := by omega
        have hi1 : (k : Int) < (l.length : Int) := by omega
        have hi2 : (k : Int) < (m.length : Int) := by omega
        have HE := Lib.hid (show l.take (k + 1) = m.take (k + 1) ↔ l[k] = m[k] by
          rw [List.take_succ_eq_append_getElem hlt, List.take_succ_eq_append_getElem (l := m) hlt2, HS.out, List.append_right_inj]
          simp)
        generalize l[k] = x at *
        generalize m[k] = y at *
        by_cases hxy : x = y
        · subst hxy
          have HE1 := Lib.hid (HE.out.2 rfl)
          clear HE
          go_wp2
          go_quiet (fail)
          go_wp2
          refine ⟨⟨k + 1, n + nq, by omega, by go_num, HE1.out, rfl⟩, by simp [intOf]; omega⟩
        · have hne : ¬ (x : Int) = (y : Int) := by omega
          go_wp2
          go_quiet (fail)
          go_wp2
          go_ret
          refine ⟨?_, n + nq, World.drewN_drewN _ _ _⟩
          have : ¬ l = m := fun h => hxy (HE.out.1 (by rw [h]))
          rw [decide_eq_false this]
          rfl
      · obtain rfl : k = l.length := by omega
        have he : l = m := by
          have := HS.out
          rwa [List.take_length, hlen, List.take_length] at this
        go_wp2
        go_ret
        refine ⟨?_, n, rfl⟩
        rw [decide_eq_true he]
        rfl
  · have hne : ¬ (l.length : Int) = (m.length : Int) := by omega
    have hlm : ¬ l = m := fun h => hlen (by rw [h])
    go_enter Tryz.func154, Tryz.ntmps154
    go_wp2
    go_ret
    refine ⟨?_, 0, rfl⟩
    rw [decide_eq_false hlm]
    rfl

end
end Lin
end Go.Proofs.YtilolepbfmcbgaaGreatDoor
/- Decode, walked. -/
namespace Go.Proofs.YtilolepbfmcbgaaGreatDoor
open Go.RowKit Go.MapKept
namespace Ino
open Lin

/-- an inode, the free one if there is none -/
def gv : Option (Nat × Nat × Nat) → Value
  | some (k, p, s) => .agg #[.int .i64 (k : Int), .int .i64 ((p : Int) - 1), .int .i64 (s : Int)]
  | none => .agg #[.int .i64 0, .int .i64 (-1), .int .i64 0]
/-- the error -/
def ev : Option (Nat × Nat × Nat) → Int
  | some _ => 0
  | none => 2

theorem split_no (w : World) (N : Nat) (hN : w.heap.size = N) (x : Nat) (hx : x < 18446744073709551616) (h : ¬ x < 4294967296) : Calls Tryz.prog 153 #[.int .u64 (x : Int), .slice (some ⟨N, 0, none⟩) 2 2] (w.alloc (.cells #[.int .i64 16, .int .i64 16] 3)) fun e w' => ∃ (G : Option Addr) (gc : Nat), e = .returned (.tuple #[.slice G 0 gc, .bool false]) ∧ Below w.heap.size w w' := by
  subst hN
  refine (Pack.split_any x hx _ 2 _ (nts_two w)).mono ?_
  rintro e w' ⟨G, gc, rfl, hw, hb⟩
  have hb0 := (Below.refl w.heap.size w).alloc (Nat.le_refl _) (.cells #[.int .i64 16, .int .i64 16] 3)
  rw [split_nums, if_neg h]
  exact ⟨G, gc, rfl, hb0.trans (hb.mono hb0.size)⟩

theorem split_yes (w : World) (N : Nat) (hN : w.heap.size = N) (x : Nat) (h : x < 4294967296) : Calls Tryz.prog 153 #[.int .u64 (x : Int), .slice (some ⟨N, 0, none⟩) 2 2] (w.alloc (.cells #[.int .i64 16, .int .i64 16] 3)) fun e w' => ∃ (b o gc : Nat), e = .returned (.tuple #[.slice (some ⟨b, o, none⟩) 2 gc, .bool true]) ∧ (b < w'.heap.size ∧ w'.cell? ⟨b, o, none⟩ = some (.int .u64 ((x % 65536 : Nat) : Int)) ∧ w'.cell? ⟨b, o + 1, none⟩ = some (.int .u64 ((x / 65536 : Nat) : Int))) ∧ Below w.heap.size w w' := by
  subst hN
  refine (Pack.split_any x (by omega) _ 2 _ (nts_two w)).mono ?_
  rintro e w' ⟨G, gc, rfl, hw, hb⟩
  have hb0 := (Below.refl w.heap.size w).alloc (Nat.le_refl _) (.cells #[.int .i64 16, .int .i64 16] 3)
  have e : x / 65536 % 65536 = x / 65536 := by omega
  rw [split_nums, if_pos h, e] at hw ⊢
  simp only [Option.getD_some] at hw
  obtain ⟨b, o, rfl, hlt, hc0⟩ := hw.at' 0 (by simp)
  obtain ⟨b', o', e, _, hc1⟩ := hw.at' 1 (by simp)
  injection e with e
  injection e with e1 e2
  subst e1 e2
  exact ⟨b, o, gc, rfl, ⟨hlt, hc0, hc1⟩, hb0.trans (hb.mono hb0.size)⟩

section
variable {w : World}
set_option maxHeartbeats 2000000 in
set_option maxRecDepth 100000 in
theorem decode_any (A : Option Addr) (c : Nat) (l : List Nat) (h : Pack.Wds w A l) :
    Calls Tryz.prog 124 #[.slice A l.length c] w fun r w' => r = .returned (.tuple #[gv (dec l), .int .i64 (ev (dec l))]) ∧ Below w.heap.size w w' := by
  have hlen := h.len
  have HB := Lib.hid ((Below.refl w.heap.size w).alloc (Nat.le_refl _) (.cells #[.int .i64 0, .int .i64 0, .int .i64 0] 58))
  have HX := Lib.hid (owned w 0 0 0 58)
  have HNN := Lib.hid none_any
  by_cases hl : l.length = 8
  · rw [hl]
    obtain ⟨b, o, rfl, hb, hcell⟩ := h.at' 0 (by omega)
    rw [Nat.add_zero] at hcell
    obtain ⟨b', o', e, _, hcell1⟩ := h.at' 1 (by omega)
    injection e with e
    injection e with e1 e2
    subst e1 e2
    have hx := h.u64 l[0] (List.getElem_mem _)
    have hy := h.u64 l[1] (List.getElem_mem _)
    have HD0 := Lib.hid (show l[0]?.getD 0 = l[0] by rw [List.getElem?_eq_getElem (by omega)]; rfl)
    have HD1 := Lib.hid (show l[1]?.getD 0 = l[1] by rw [List.getElem?_eq_getElem (by omega)]; rfl)
    have H := Lib.hid h
    have HL := Lib.hid hl
    clear h
    generalize l[0] = x at *
    generalize l[1] = y at *
    clear hl
    by_cases h32 : x < 4294967296
    · obtain ⟨k, hk⟩ : ∃ k, k = x % 65536 := ⟨_, rfl⟩
      obtain ⟨p, hp⟩ : ∃ p, p = x / 65536 := ⟨_, rfl⟩
      have hk1 : k < 65536 := by omega
      have hp1 : p < 65536 := by omega
      have HS := Lib.hid (split_yes (w.alloc (.cells #[.int .i64 0, .int .i64 0, .int .i64 0] 58)) (w.heap.size + 1) (World.size_alloc _ _) x h32)
      rw [← hk, ← hp] at HS
      have HD := Lib.hid (show dec l = if may k ((p : Int) - 1) y = true ∧ l = ln k p y then some (k, p, y) else none by
        unfold dec
        simp only [HD0.out, HD1.out, ← hk, ← hp]
        by_cases hc : may k ((p : Int) - 1) y = true ∧ l = ln k p y
        · rw [if_pos hc, if_pos ⟨HL.out, h32, hc⟩]
        · rw [if_neg hc, if_neg (fun h => hc h.2.2)])
      clear hk hp h32 HD0 HD1
      obtain ⟨S, hS⟩ : ∃ S, S = IntKind.wrap .i64 (y : Int) := ⟨_, rfl⟩
      obtain ⟨hd, hhd⟩ : ∃ hd, hd = (p : Int) - 1 := ⟨_, rfl⟩
      have HMS := Lib.hid (show may k hd S = may k ((p : Int) - 1) y by
        rw [← hhd]
        rw [IntKind.wrap_i64] at hS
        by_cases h63 : y < 9223372036854775808
        · have : S = (y : Int) := by omega
          rw [this]
        · have h1 : may k hd S = false := by
            unfold may May
            exact decide_eq_false (by omega)
          have h2 : may k hd y = false := by
            unfold may May
            exact decide_eq_false (by omega)
          rw [h1, h2])
      have HSY := Lib.hid (show may k ((p : Int) - 1) y = true → S = (y : Int) by
        intro hm
        have := (may_lt hm).2.2
        rw [IntKind.wrap_i64] at hS
        omega)
      have hwk : IntKind.wrap .i64 (k : Int) = (k : Int) := by rw [IntKind.wrap_i64]; omega
      have hwp : IntKind.wrap .i64 (p : Int) = (p : Int) := by rw [IntKind.wrap_i64]; omega
      have hwh : IntKind.wrap .i64 ((p : Int) - 1) = hd := by rw [IntKind.wrap_i64]; omega
      have hwy : IntKind.wrap .i64 (y : Int) = S := hS.symm
      have HH := Lib.hid hhd
      clear hS hhd
      go_enter Tryz.func124, Tryz.ntmps124
      go_wp2_with fail
      refine HS.out.mono ?_
      rintro e w1 ⟨b1, o1, gc, rfl, ⟨hb1, hq0, hq1⟩, hbw⟩
      have HX1 := Lib.hid (HX.out.keep hbw)
      have HB1 := Lib.hid (HB.out.trans (hbw.mono HB.out.size))
      have hz1 : w.heap.size < w1.heap.size := HX1.out.box.lt
      have hcy : w1.cell? ⟨b, o + 1, none⟩ = some (.int .u64 (y : Int)) := (HB1.out.cell (p := ⟨b, o + 1, none⟩) hb).trans hcell1
      have hbw1 : b < w1.heap.size := Nat.lt_of_lt_of_le hb HB1.out.size
      have H1 := Lib.hid (H.out.keep HB1.out)
      clear hbw HS HX HB H hcell hcell1
      go_wp2
      go_region
      have hba := (Below.refl w1.heap.size w1).alloc (Nat.le_refl _) (.cells #[.int .i64 (k : Int), .int .i64 hd, .int .i64 S] 58)
      have HX2 := Lib.hid (HX1.out.keep hba).drew
      have HG2 := Lib.hid (boxed w1 k hd S 58).drew
      have HB2 := Lib.hid (HB1.out.trans (hba.mono HB1.out.size)).drew
      have H2 := Lib.hid (H1.out.keep hba.drew)
      clear hwk hwp hwh hwy hba HX1 HB1 H1 hb1 hq0 hq1 hcy hbw1
      go_wp2_with fail
      generalize (w1.alloc (.cells #[.int .i64 (k : Int), .int .i64 hd, .int .i64 S] 58)).drew = w2 at *
      generalize w1.heap.size = k1 at *
      cases hmay : may k ((p : Int) - 1) y with
      | false =>
        have HN := Lib.hid (show dec l = none by rw [HD.out, if_neg (fun h => by rw [hmay] at h; simp at h)])
        refine (encode_no _ k hd S (by rw [HMS.out]; exact hmay)).mono ?_
        rintro e w3 ⟨rfl, hb3⟩
        have HX3 := Lib.hid (HX2.out.keep hb3)
        have HB3 := Lib.hid (HB2.out.trans (hb3.mono HB2.out.size))
        clear hb3 hmay HX2 HB2 H2 HD HMS HSY HH
        go_wp2_with fail
        refine (HNN.out _).mono ?_
        rintro e w4 ⟨rfl, hb4⟩
        have HX4 := Lib.hid (HX3.out.keep hb4)
        have HB4 := Lib.hid (HB3.out.trans (hb4.mono HB3.out.size))
        clear hb4 HX3 HB3
        have hc0 := HX4.out.box.c0
        have hc1 := HX4.out.box.c1
        have hc2 := HX4.out.box.c2
        have hf0 := HX4.out.f 0
        have hf1 := HX4.out.f 1
        have hf2 := HX4.out.f 2
        go_wp2
        rw [HN.out]
        refine bodyPost_ret (v := .tuple #[gv none, .int .i64 (ev none)]) ?_ rfl ⟨rfl, ?_⟩
        · simp [results, Tryz.results124, go_sem, gv, ev, hc0, hc1, hc2]
        · exact ((HB4.out.setCell (Nat.le_refl _) _).setCell (Nat.le_refl _) _).setCell (Nat.le_refl _) _
      | true =>
        obtain rfl := HSY.out hmay
        refine (encode_yes _ k p y hd HH.out hmay).mono ?_
        rintro e w3 ⟨g, hg, rfl, hrow, hb3⟩
        have he := equal_any (some ⟨b, o, none⟩) (some ⟨g, 0, none⟩) c 8 l (ln k p y) (H2.out.keep hb3) (row_pack hrow (ln_len _ _ _) (ln_u64 hmay))
        rw [HL.out, ln_len] at he
        have HE := Lib.hid he
        have HX3 := Lib.hid (HX2.out.keep hb3)
        have HG3 := Lib.hid (HG2.out.keep hb3)
        have HB3 := Lib.hid (HB2.out.trans (hb3.mono HB2.out.size))
        have HM := Lib.hid hmay
        clear hb3 hmay HX2 HB2 H2 he hrow HG2 HMS HSY
        go_wp2_with fail
        refine HE.out.mono ?_
        rintro e w4 ⟨rfl, q, hq⟩
        have HX4 := Lib.hid (show Own w4 w.heap.size 0 0 0 by rw [hq]; exact HX3.out.drewN q)
        have HG4 := Lib.hid (show Box w4 k1 k hd y by rw [hq]; exact HG3.out.drewN q)
        have HB4 := Lib.hid (show Below w.heap.size w w4 by rw [hq]; exact Pack.below_drewN HB3.out q)
        clear hq HX3 HG3 HB3 HE
        by_cases hls : l = ln k p y
        · have HN := Lib.hid (show dec l = some (k, p, y) by rw [HD.out, if_pos ⟨HM.out, hls⟩])
          rw [decide_eq_true hls]
          have hc0 := HX4.out.box.c0
          have hc1 := HX4.out.box.c1
          have hc2 := HX4.out.box.c2
          have hf0 := HX4.out.f 0
          have hf1 := HX4.out.f 1
          have hf2 := HX4.out.f 2
          have hg0 := HG4.out.c0
          have hg1 := HG4.out.c1
          have hg2 := HG4.out.c2
          clear hls HD HM
          go_wp2
          rw [HN.out]
          refine bodyPost_ret (v := .tuple #[gv (some (k, p, y)), .int .i64 (ev (some (k, p, y)))]) ?_ rfl ⟨rfl, ?_⟩
          · simp [results, Tryz.results124, go_sem, gv, ev, hc0, hc1, hc2, HH.out]
          · exact ((HB4.out.setCell (Nat.le_refl _) _).setCell (Nat.le_refl _) _).setCell (Nat.le_refl _) _
        · have HN := Lib.hid (show dec l = none by rw [HD.out, if_neg (fun h => hls h.2)])
          rw [decide_eq_false hls]
          clear hls HD HM
          go_wp2_with fail
          refine (HNN.out _).mono ?_
          rintro e w5 ⟨rfl, hb5⟩
          have HX5 := Lib.hid (HX4.out.keep hb5)
          have HB5 := Lib.hid (HB4.out.trans (hb5.mono HB4.out.size))
          clear hb5 HX4 HB4
          have hc0 := HX5.out.box.c0
          have hc1 := HX5.out.box.c1
          have hc2 := HX5.out.box.c2
          have hf0 := HX5.out.f 0
          have hf1 := HX5.out.f 1
          have hf2 := HX5.out.f 2
          go_wp2
          rw [HN.out]
          refine bodyPost_ret (v := .tuple #[gv none, .int .i64 (ev none)]) ?_ rfl ⟨rfl, ?_⟩
          · simp [results, Tryz.results124, go_sem, gv, ev, hc0, hc1, hc2]
          · exact ((HB5.out.setCell (Nat.le_refl _) _).setCell (Nat.le_refl _) _).setCell (Nat.le_refl _) _
    · have HN := Lib.hid (show dec l = none by
        unfold dec
        simp only [HD0.out]
        exact if_neg (fun h => h32 h.2.1))
      have HS := Lib.hid (split_no (w.alloc (.cells #[.int .i64 0, .int .i64 0, .int .i64 0] 58)) (w.heap.size + 1) (World.size_alloc _ _) x hx h32)
      go_enter Tryz.func124, Tryz.ntmps124
      go_wp2_with fail
      refine HS.out.mono ?_
      rintro e w1 ⟨G, gc, rfl, hb1⟩
      have HX1 := Lib.hid (HX.out.keep hb1)
      have HB1 := Lib.hid (HB.out.trans (hb1.mono HB.out.size))
      clear hb1
      go_wp2_with fail
      refine (HNN.out _).mono ?_
      rintro e w5 ⟨rfl, hb5⟩
      have HX5 := Lib.hid (HX1.out.keep hb5)
      have HB5 := Lib.hid (HB1.out.trans (hb5.mono HB1.out.size))
      clear hb5 HX1 HB1
      have hc0 := HX5.out.box.c0
      have hc1 := HX5.out.box.c1
      have hc2 := HX5.out.box.c2
      have hf0 := HX5.out.f 0
      have hf1 := HX5.out.f 1
      have hf2 := HX5.out.f 2
      go_wp2
      rw [HN.out]
      refine bodyPost_ret (v := .tuple #[gv none, .int .i64 (ev none)]) ?_ rfl ⟨rfl, ?_⟩
      · simp [results, Tryz.results124, go_sem, gv, ev, hc0, hc1, hc2]
      · exact ((HB5.out.setCell (Nat.le_refl _) _).setCell (Nat.le_refl _) _).setCell (Nat.le_refl _) _
  · have HN := Lib.hid (show dec l = none by
      unfold dec
      exact if_neg (fun h => hl h.1))
    have hl' : ¬ (l.length : Int) = 8 := by omega
    go_enter Tryz.func124, Tryz.ntmps124
    go_wp2_with fail
    refine (HNN.out _).mono ?_
    rintro e w5 ⟨rfl, hb5⟩
    have HX5 := Lib.hid (HX.out.keep hb5)
    have HB5 := Lib.hid (HB.out.trans (hb5.mono HB.out.size))
    clear hb5 HX HB
    have hc0 := HX5.out.box.c0
    have hc1 := HX5.out.box.c1
    have hc2 := HX5.out.box.c2
    have hf0 := HX5.out.f 0
    have hf1 := HX5.out.f 1
    have hf2 := HX5.out.f 2
    go_wp2
    rw [HN.out]
    refine bodyPost_ret (v := .tuple #[gv none, .int .i64 (ev none)]) ?_ rfl ⟨rfl, ?_⟩
    · simp [results, Tryz.results124, go_sem, gv, ev, hc0, hc1, hc2]
    · exact ((HB5.out.setCell (Nat.le_refl _) _).setCell (Nat.le_refl _) _).setCell (Nat.le_refl _) _
end
end Ino
end Go.Proofs.YtilolepbfmcbgaaGreatDoor
/- The document's May and Encode. -/
namespace Go.Proofs.YtilolepbfmcbgaaGreatDoor
open Go.RowKit Go.MapKept
namespace Ino
open Lin

theorem may_iff {k h s : Int} : may k h s = true ↔ May k h s := decide_eq_true_iff
theorem ret_bool {a b : Bool} (h : a = true ↔ b = true) : Ending.returned (Value.bool a) = Ending.returned (Value.bool b) := by rw [Bool.eq_iff_iff.2 h]

set_option maxHeartbeats 1000000 in
theorem refMay_any (w : World) (k h s : Int) :
    Calls Tryz.prog 158 #[.agg #[.int .i64 k, .int .i64 h, .int .i64 s]] w fun r w' => r = .returned (.bool (may k h s)) ∧ Below w.heap.size w w' := by
  by_cases h0 : k = 0
  · subst h0
    go_enter Tryz.func158, Tryz.ntmps158
    go_wp2
    all_goals go_ret
    all_goals refine ⟨ret_bool ?_, (Below.refl _ _).alloc (Nat.le_refl _) _⟩
    all_goals refine Iff.trans ?_ may_iff.symm
    all_goals unfold May
    · rw [beq_iff_eq]
      omega
    · simp only [Bool.false_eq_true, false_iff]
      omega
  · go_enter Tryz.func158, Tryz.ntmps158
    go_wp2
    all_goals go_ret
    all_goals refine ⟨ret_bool ?_, (Below.refl _ _).alloc (Nat.le_refl _) _⟩
    all_goals refine Iff.trans ?_ may_iff.symm
    all_goals unfold May
    all_goals simp only [bne_iff_ne, bne_eq_false_iff_eq, ne_eq, beq_iff_eq, decide_eq_true_eq, Bool.false_eq_true, true_iff, false_iff] at *
    all_goals omega
end Ino
end Go.Proofs.YtilolepbfmcbgaaGreatDoor
/- The document's Encode. -/
namespace Go.Proofs.YtilolepbfmcbgaaGreatDoor
open Go.RowKit Go.MapKept
namespace Ino
open Lin

theorem refEncode_no (w : World) (k h s : Int) (hm : may k h s = false) :
    Calls Tryz.prog 128 #[.agg #[.int .i64 k, .int .i64 h, .int .i64 s]] w fun r w' => r = .returned (.tuple #[.slice none 0 0, .bool false]) ∧ Below w.heap.size w w' := by
  have HM := Lib.hid (fun w => refMay_any w k h s)
  have HE := Lib.hid hm
  clear hm
  have HB := Lib.hid ((Below.refl w.heap.size w).alloc (Nat.le_refl _) (.cells #[.int .i64 k, .int .i64 h, .int .i64 s] 95))
  go_enter Tryz.func128, Tryz.ntmps128
  go_wp2_with fail
  refine (HM.out _).mono ?_
  rintro e w' ⟨rfl, hb⟩
  rw [HE.out]
  have HB1 := Lib.hid (HB.out.trans (hb.mono HB.out.size))
  clear hb
  go_wp2
  go_ret2
  exact ⟨rfl, HB1.out⟩

theorem refEncode_free (w : World) :
    Calls Tryz.prog 128 #[.agg #[.int .i64 0, .int .i64 (-1), .int .i64 0]] w fun r w' => ∃ (G : Option Addr) (gc : Nat), r = .returned (.tuple #[.slice G 8 gc, .bool true]) ∧ Pack.Wds w' G zero ∧ Below w.heap.size w w' := by
  have HM := Lib.hid (fun w => refMay_any w 0 (-1) 0)
  have HE := Lib.hid (show may 0 (-1) 0 = true by decide)
  have HB := Lib.hid ((Below.refl w.heap.size w).alloc (Nat.le_refl _) (.cells #[.int .i64 0, .int .i64 (-1), .int .i64 0] 95))
  have HX := Lib.hid (boxed w 0 (-1) 0 95)
  go_enter Tryz.func128, Tryz.ntmps128
  go_wp2_with fail
  refine (HM.out _).mono ?_
  rintro e w1 ⟨rfl, hb⟩
  rw [HE.out]
  have HB1 := Lib.hid (HB.out.trans (hb.mono HB.out.size))
  have HX1 := Lib.hid (HX.out.keep hb)
  have hc0 := HX1.out.c0
  clear hb HX
  have hmk := run_make_row' (P := Tryz.prog) 22 121 _ 8 Tryz.underlying22 Pack.u64_info rfl .i64 .i64 8 (by omega) (by omega) w1
  rw [show ((8 : Nat) : Int) = 8 from rfl] at hmk
  go_wp2
  go_ret2
  exact ⟨some ⟨w1.heap.size, 0, none⟩, 8, rfl, row_pack (row_zero (row_made w1)) rfl zero_u64, HB1.out.alloc HB1.out.size _⟩

theorem front_new (w : World) (k p s : Nat) (h : Int) (hh : h = (p : Int) - 1) (hk : k < 65536) (hp : p < 65536) (hs : s < 18446744073709551616) : Crc.Wds (w.alloc (.cells #[.int .u64 ((k : Int) + 65536 * (h + 1)), .int .u64 (s : Int), .int .u64 0, .int .u64 0, .int .u64 0, .int .u64 0, .int .u64 0] 121)) (some ⟨w.heap.size, 0, none⟩) (front k p s) :=
  ⟨front_u64 hk hp hs, by rw [front_len]; omega, fun j hj => ⟨w.heap.size, 0, rfl, by simp, by
    rw [World.cell?_alloc_mark, Nat.zero_add]
    have : j < 7 := hj
    have e : (k : Int) + 65536 * (h + 1) = ((nums k p : Nat) : Int) := by unfold nums; omega
    match j, this with
    | 0, _ => rw [e]; rfl
    | 1, _ => rfl
    | 2, _ => rfl
    | 3, _ => rfl
    | 4, _ => rfl
    | 5, _ => rfl
    | 6, _ => rfl⟩⟩

set_option maxHeartbeats 2000000 in
set_option maxRecDepth 100000 in
theorem refEncode_full (w : World) (k p s : Nat) (h : Int) (hh : h = (p : Int) - 1) (hk0 : k ≠ 0) (hm : may k ((p : Int) - 1) s = true) :
    Calls Tryz.prog 128 #[.agg #[.int .i64 (k : Int), .int .i64 h, .int .i64 (s : Int)]] w fun r w' => ∃ (G : Option Addr) (gc : Nat), r = .returned (.tuple #[.slice G 8 gc, .bool true]) ∧ Pack.Wds w' G (full k p s) ∧ Below w.heap.size w w' := by
  obtain ⟨h1, h2, h3⟩ := may_lt hm
  have HM := Lib.hid (fun w => refMay_any w k h s)
  have HE := Lib.hid (show may k h s = true by rw [hh]; exact hm)
  have hki : ¬ (k : Int) = 0 := by omega
  have hs64 : s < 18446744073709551616 := by omega
  have hk64 : k < 65536 := by omega
  have hp64 : p < 65536 := by omega
  have hhl : -1 ≤ h := by omega
  have hhu : h ≤ 65533 := by omega
  have HH := Lib.hid hh
  clear hm hh
  have HB := Lib.hid ((Below.refl w.heap.size w).alloc (Nat.le_refl _) (.cells #[.int .i64 (k : Int), .int .i64 h, .int .i64 (s : Int)] 95))
  have HX := Lib.hid (boxed w k h s 95)
  go_enter Tryz.func128, Tryz.ntmps128
  go_wp2_with fail
  refine (HM.out _).mono ?_
  rintro e w1 ⟨rfl, hb⟩
  rw [HE.out]
  have HB1 := Lib.hid (HB.out.trans (hb.mono HB.out.size))
  have HX1 := Lib.hid (HX.out.keep hb)
  have hc0 := HX1.out.c0
  have hc1 := HX1.out.c1
  have hc2 := HX1.out.c2
  clear hb HX
  go_wp2_with fail
  have HF := Lib.hid (front_new w1 k p s h HH.out hk64 hp64 hs64)
  have HB3 := Lib.hid (HB1.out.alloc HB1.out.size (.cells #[.int .u64 ((k : Int) + 65536 * (h + 1)), .int .u64 (s : Int), .int .u64 0, .int .u64 0, .int .u64 0, .int .u64 0, .int .u64 0] 121))
  clear hc0 hc1 hc2 HX1 HB1
  generalize w1.alloc (.cells #[.int .u64 ((k : Int) + 65536 * (h + 1)), .int .u64 (s : Int), .int .u64 0, .int .u64 0, .int .u64 0, .int .u64 0, .int .u64 0] 121) = w3 at *
  generalize w1.heap.size = g at *
  refine (Crc.bytes_any _ 7 _ HF.out (by rw [front_len]; omega)).mono ?_
  rintro e w4 ⟨rfl, hb⟩
  have HF4 := Lib.hid (HF.out.keep hb)
  have HB4 := Lib.hid (HB3.out.trans (hb.mono HB3.out.size))
  clear hb HF HB3 HB
  have hsum := Crc.ref32_any w4 (Crc.str (Crc.wflat (front k p s))) (by rw [Crc.str_size, Crc.wflat_len, front_len]; omega)
  rw [Crc.tx_str (Crc.wflat_byt _), show Crc.S32 (Crc.wflat (front k p s)) = sum k p s from rfl] at hsum
  have HS := Lib.hid hsum
  clear hsum
  have hlt := sum_lt k p s
  go_wp2_with fail
  refine HS.out.mono ?_
  rintro e w' ⟨rfl, rfl⟩
  obtain ⟨G, gc, w5, hap, hw, hb5⟩ := grow8 w4 g (front k p s) (sum k p s) (front_len _ _ _) HF4.out (full_u64 hk64 hp64 hs64)
  have HAP := Lib.hid hap
  have HW := Lib.hid hw
  have HB5 := Lib.hid (HB4.out.trans (hb5.mono HB4.out.size))
  clear hap hw hb5 HF4 HB4
  go_wp2_with (at_builtin; refine wpList_append_run rfl (.tmp 25) (.tmp 30) 22 rfl _ _ _ rfl rfl HAP.out ?_)
  go_ret2
  exact ⟨G, gc, rfl, HW.out, HB5.out⟩

theorem refEncode_yes (w : World) (k p s : Nat) (h : Int) (hh : h = (p : Int) - 1) (hm : may k ((p : Int) - 1) s = true) :
    Calls Tryz.prog 128 #[.agg #[.int .i64 (k : Int), .int .i64 h, .int .i64 (s : Int)]] w fun r w' => ∃ (G : Option Addr) (gc : Nat), r = .returned (.tuple #[.slice G 8 gc, .bool true]) ∧ Pack.Wds w' G (ln k p s) ∧ Below w.heap.size w w' := by
  by_cases hk : k = 0
  · subst hk
    obtain ⟨rfl, rfl⟩ := may_free hm
    subst hh
    rw [ln_zero]
    exact refEncode_free w
  · rw [ln_full hk]
    exact refEncode_full w k p s h hh hk hm
end Ino
end Go.Proofs.YtilolepbfmcbgaaGreatDoor
/- The document's decoding. -/
namespace Go.Proofs.YtilolepbfmcbgaaGreatDoor
open Go.RowKit Go.MapKept
namespace Ino
open Lin

/-- the inode, and whether there is one -/
def rv (q : Option (Nat × Nat × Nat)) : Value := .tuple #[gv q, .bool q.isSome]

/-- the result's block, and the free one's -/
structure Two (w0 w : World) (b : Nat) : Prop where
  own : Own w b 0 0 0
  free : Box w (b + 1) 0 (-1) 0
  below : Below b w0 w
theorem Two.keep {w0 w w' : World} {b : Nat} (h : Two w0 w b) (hb : Below w.heap.size w w') : Two w0 w' b :=
  ⟨h.own.keep hb, h.free.keep hb, h.below.trans (hb.mono (Nat.le_of_lt h.own.box.lt))⟩
theorem Two.drewN {w0 w : World} {b : Nat} (h : Two w0 w b) (k : Nat) : Two w0 (w.drewN k) b :=
  ⟨h.own.drewN k, h.free.drewN k, Pack.below_drewN h.below k⟩
theorem two_new (w : World) (t : TypeId) : Two w ((w.alloc (.cells #[.int .i64 0, .int .i64 0, .int .i64 0] t)).alloc (.cells #[.int .i64 0, .int .i64 (-1), .int .i64 0] t)) w.heap.size := by
  have hb := (Below.refl w.heap.size w).alloc (Nat.le_refl _) (.cells #[.int .i64 0, .int .i64 0, .int .i64 0] t)
  have hb' := (Below.refl _ (w.alloc (.cells #[.int .i64 0, .int .i64 0, .int .i64 0] t))).alloc (Nat.le_refl _) (.cells #[.int .i64 0, .int .i64 (-1), .int .i64 0] t)
  exact ⟨(owned w 0 0 0 t).keep hb', boxed_at (World.size_alloc _ _) _ _ _ _, hb.trans (hb'.mono hb.size)⟩

theorem below_two (w : World) (o o' : Obj) : Below w.heap.size w ((w.alloc o).alloc o') := by
  have hb := (Below.refl w.heap.size w).alloc (Nat.le_refl _) o
  exact hb.alloc hb.size _

section
variable {w : World}
set_option maxHeartbeats 2000000 in
set_option maxRecDepth 100000 in
theorem refDecode_any (A : Option Addr) (c : Nat) (l : List Nat) (h : Pack.Wds w A l) :
    Calls Tryz.prog 83 #[.slice A l.length c] w fun r w' => r = .returned (rv (dec l)) ∧ Below w.heap.size w w' := by
  have hlen := h.len
  have HT := Lib.hid (two_new w 95)
  by_cases hl : l.length = 8
  · rw [hl]
    obtain ⟨b, o, rfl, hb, hcell⟩ := h.at' 0 (by omega)
    rw [Nat.add_zero] at hcell
    obtain ⟨b', o', e, _, hcell1⟩ := h.at' 1 (by omega)
    injection e with e
    injection e with e1 e2
    subst e1 e2
    have hx := h.u64 l[0] (List.getElem_mem _)
    have hy := h.u64 l[1] (List.getElem_mem _)
    have HD0 := Lib.hid (show l[0]?.getD 0 = l[0] by rw [List.getElem?_eq_getElem (by omega)]; rfl)
    have HD1 := Lib.hid (show l[1]?.getD 0 = l[1] by rw [List.getElem?_eq_getElem (by omega)]; rfl)
    have H := Lib.hid h
    have HL := Lib.hid hl
    clear h
    generalize l[0] = x at *
    generalize l[1] = y at *
    clear hl
    by_cases hxy : x < 4294967296 ∧ y ≤ 268435456
    · obtain ⟨h32, h28⟩ := hxy
      obtain ⟨k, hk⟩ : ∃ k, k = x % 65536 := ⟨_, rfl⟩
      obtain ⟨p, hp⟩ : ∃ p, p = x / 65536 := ⟨_, rfl⟩
      have hk1 : k < 65536 := by omega
      have hp1 : p < 65536 := by omega
      have HD := Lib.hid (show dec l = if may k ((p : Int) - 1) y = true ∧ l = ln k p y then some (k, p, y) else none by
        unfold dec
        simp only [HD0.out, HD1.out, ← hk, ← hp]
        by_cases hc : may k ((p : Int) - 1) y = true ∧ l = ln k p y
        · rw [if_pos hc, if_pos ⟨HL.out, h32, hc⟩]
        · rw [if_neg hc, if_neg (fun h => hc h.2.2)])
      obtain ⟨hd, hhd⟩ : ∃ hd, hd = (p : Int) - 1 := ⟨_, rfl⟩
      have HH := Lib.hid hhd
      have hxk : (x : Int) % 65536 = (k : Int) := by omega
      have hxp : (x : Int) / 65536 = (p : Int) := by omega
      have hwk : IntKind.wrap .i64 (k : Int) = (k : Int) := by rw [IntKind.wrap_i64]; omega
      have hwp : IntKind.wrap .i64 (p : Int) = (p : Int) := by rw [IntKind.wrap_i64]; omega
      have hwh : IntKind.wrap .i64 ((p : Int) - 1) = hd := by rw [IntKind.wrap_i64]; omega
      have hwy : IntKind.wrap .i64 (y : Int) = (y : Int) := by rw [IntKind.wrap_i64]; omega
      have HXK := Lib.hid hxk
      have HXP := Lib.hid hxp
      clear hk hp hhd HD0 HD1 hxk hxp
      have hx32 : ¬ (4294967295 : Int) < (x : Int) := by omega
      have hy28 : ¬ (268435456 : Int) < (y : Int) := by omega
      go_enter Tryz.func83, Tryz.ntmps83
      go_wp2
      have hc0 := (HT.out.below.cell (p := ⟨b, o, none⟩) hb).trans hcell
      have hc1 := (HT.out.below.cell (p := ⟨b, o + 1, none⟩) hb).trans hcell1
      have hbw : b < ((w.alloc (.cells #[.int .i64 0, .int .i64 0, .int .i64 0] 95)).alloc (.cells #[.int .i64 0, .int .i64 (-1), .int .i64 0] 95)).heap.size := Nat.lt_of_lt_of_le hb HT.out.below.size
      have H1 := Lib.hid (H.out.keep HT.out.below)
      clear hcell hcell1 H
      generalize (w.alloc (.cells #[.int .i64 0, .int .i64 0, .int .i64 0] 95)).alloc (.cells #[.int .i64 0, .int .i64 (-1), .int .i64 0] 95) = w1 at *
      have hxk := HXK.out
      have hxp := HXP.out
      go_region
      have hba := (Below.refl w1.heap.size w1).alloc (Nat.le_refl _) (.cells #[.int .i64 (k : Int), .int .i64 hd, .int .i64 (y : Int)] 95)
      have HT2 := Lib.hid (HT.out.keep hba.drew)
      have HG2 := Lib.hid (boxed w1 k hd y 95).drew
      have H2 := Lib.hid (H1.out.keep hba.drew)
      clear hwk hwp hwh hwy hba HT H1 hbw hc0 hc1 hxk hxp HXK HXP hb hx hy hx32 hy28 h32 h28
      go_wp2_with fail
      generalize (w1.alloc (.cells #[.int .i64 (k : Int), .int .i64 hd, .int .i64 (y : Int)] 95)).drew = w2 at *
      generalize w1.heap.size = k1 at *
      cases hmay : may k ((p : Int) - 1) y with
      | false =>
        have HN := Lib.hid (show dec l = none by rw [HD.out, if_neg (fun h => by rw [hmay] at h; simp at h)])
        refine (refEncode_no _ k hd y (by rw [HH.out]; exact hmay)).mono ?_
        rintro e w3 ⟨rfl, hb3⟩
        have HT3 := Lib.hid (HT2.out.keep hb3)
        have hc0 := HT3.out.own.box.c0
        have hc1 := HT3.out.own.box.c1
        have hc2 := HT3.out.own.box.c2
        have hf0 := HT3.out.own.f 0
        have hf1 := HT3.out.own.f 1
        have hf2 := HT3.out.own.f 2
        have hg0 := HT3.out.free.c0
        have hg1 := HT3.out.free.c1
        have hg2 := HT3.out.free.c2
        clear hb3 hmay HT2 H2 HD HH HG2
        go_wp2
        rw [HN.out]
        refine bodyPost_ret (v := rv none) ?_ rfl ⟨rfl, ?_⟩
        · simp [results, Tryz.results83, go_sem, rv, gv, hc0, hc1, hc2]
        · exact ((HT3.out.below.setCell (Nat.le_refl _) _).setCell (Nat.le_refl _) _).setCell (Nat.le_refl _) _
      | true =>
        refine (refEncode_yes _ k p y hd HH.out hmay).mono ?_
        rintro e w3 ⟨G, gc, rfl, hw, hb3⟩
        have HT3 := Lib.hid (HT2.out.keep hb3)
        have HG3 := Lib.hid (HG2.out.keep hb3)
        have H3 := Lib.hid (H2.out.keep hb3)
        have HW := Lib.hid hw
        have HM := Lib.hid hmay
        have hz3 : w.heap.size < w3.heap.size := HT3.out.own.box.lt
        have hz4 : w.heap.size + 1 < w3.heap.size := HT3.out.free.lt
        have hz5 : k1 < w3.heap.size := HG3.out.lt
        clear hb3 hmay HT2 HG2 H2 hw hlen hk1 hp1
        go_wp2
        go_loopw [52] (fun i wr => ∃ (j q : Nat), j ≤ 8 ∧ i = .int .i64 (j : Int) ∧ (ln k p y).take j = l.take j ∧ wr = w3.drewN q) (fun i _ => 8 - (intOf i).toNat)
        case atStart => exact ⟨0, 0, Nat.zero_le _, rfl, rfl, rfl⟩
        case round =>
          obtain ⟨j, q, hj, rfl, hs, rfl⟩ := hrel
          have HS := Lib.hid hs
          clear hs
          by_cases hlt : j < 8
          · have hlt1 : j < (ln k p y).length := by rw [ln_len]; exact hlt
            have hlt2 : j < l.length := by rw [HL.out]; exact hlt
            obtain ⟨b1, o1, rfl, hb1, hcell1⟩ := HW.out.at' j hlt1
            obtain ⟨b2, o2, e, hb2, hcell2⟩ := H3.out.at' j hlt2
            injection e with e
            injection e with e1 e2
            subst e1 e2
            have hi0 : (0 : Int) ≤ (j : Int) := by omega
            have hi1 : (j : Int) < 8 := by omega
            have HE := Lib.hid (show (ln k p y).take (j + 1) = l.take (j + 1) ↔ (ln k p y)[j] = l[j] by
              rw [List.take_succ_eq_append_getElem hlt1, List.take_succ_eq_append_getElem hlt2, HS.out, List.append_right_inj]
              simp)
            generalize (ln k p y)[j] = u at *
            generalize l[j] = z at *
            clear hlt1 hlt2
            by_cases huz : u = z
            · subst huz
              have HE1 := Lib.hid (HE.out.2 rfl)
              clear HE
              go_wp2
              go_quiet (fail)
              go_wp2
              refine ⟨⟨j + 1, q + nq, by omega, by go_num, HE1.out, rfl⟩, by simp [intOf]; omega⟩
            · have hne : ¬ (u : Int) = (z : Int) := by omega
              have HN := Lib.hid (show dec l = none by rw [HD.out, if_neg (fun h => huz (HE.out.1 (by rw [h.2])))])
              clear HE huz
              go_wp2
              go_quiet (fail)
              clear hi0 hi1 hcell1 hcell2
              have HT4 := Lib.hid (HT3.out.drewN (q + nq))
              have hc0 := HT4.out.own.box.c0
              have hc1 := HT4.out.own.box.c1
              have hc2 := HT4.out.own.box.c2
              have hf0 := HT4.out.own.f 0
              have hf1 := HT4.out.own.f 1
              have hf2 := HT4.out.own.f 2
              have hg0 := HT4.out.free.c0
              have hg1 := HT4.out.free.c1
              have hg2 := HT4.out.free.c2
              go_wp2
              rw [HN.out]
              refine bodyPost_ret (v := rv none) ?_ rfl ⟨rfl, ?_⟩
              · simp [results, Tryz.results83, go_sem, rv, gv, hc0, hc1, hc2]
              · exact ((HT4.out.below.setCell (Nat.le_refl _) _).setCell (Nat.le_refl _) _).setCell (Nat.le_refl _) _
          · obtain rfl : j = 8 := by omega
            have he : l = ln k p y := by
              have := HS.out
              rw [List.take_of_length_le (by rw [ln_len]; omega), List.take_of_length_le (by rw [HL.out]; omega)] at this
              exact this.symm
            have HN := Lib.hid (show dec l = some (k, p, y) by rw [HD.out, if_pos ⟨HM.out, he⟩])
            clear he
            have HT4 := Lib.hid (HT3.out.drewN q)
            have HG4 := Lib.hid (HG3.out.drewN q)
            have hc0 := HT4.out.own.box.c0
            have hc1 := HT4.out.own.box.c1
            have hc2 := HT4.out.own.box.c2
            have hf0 := HT4.out.own.f 0
            have hf1 := HT4.out.own.f 1
            have hf2 := HT4.out.own.f 2
            have hg0 := HG4.out.c0
            have hg1 := HG4.out.c1
            have hg2 := HG4.out.c2
            go_wp2
            rw [HN.out]
            refine bodyPost_ret (v := rv (some (k, p, y))) ?_ rfl ⟨rfl, ?_⟩
            · simp [results, Tryz.results83, go_sem, rv, gv, hc0, hc1, hc2, HH.out]
            · exact ((HT4.out.below.setCell (Nat.le_refl _) _).setCell (Nat.le_refl _) _).setCell (Nat.le_refl _) _
    · have HN := Lib.hid (show dec l = none by
        unfold dec
        simp only [HD0.out, HD1.out]
        exact if_neg (fun h => hxy ⟨h.2.1, (may_lt h.2.2.1).2.2⟩))
      by_cases h32 : x < 4294967296
      · have hx32 : ¬ (4294967295 : Int) < (x : Int) := by omega
        have hy28 : (268435456 : Int) < (y : Int) := by omega
        go_enter Tryz.func83, Tryz.ntmps83
        go_wp2
        rw [HN.out]
        refine bodyPost_ret (v := rv none) ?_ rfl ⟨rfl, ?_⟩
        · simp [results, Tryz.results83, go_sem, rv, gv]
        · exact below_two _ _ _
      · have hx32 : (4294967295 : Int) < (x : Int) := by omega
        go_enter Tryz.func83, Tryz.ntmps83
        go_wp2
        rw [HN.out]
        refine bodyPost_ret (v := rv none) ?_ rfl ⟨rfl, ?_⟩
        · simp [results, Tryz.results83, go_sem, rv, gv]
        · exact below_two _ _ _
  · have HN := Lib.hid (show dec l = none by
      unfold dec
      exact if_neg (fun h => hl h.1))
    have hl' : ¬ (l.length : Int) = 8 := by omega
    go_enter Tryz.func83, Tryz.ntmps83
    go_wp2
    rw [HN.out]
    refine bodyPost_ret (v := rv none) ?_ rfl ⟨rfl, ?_⟩
    · simp [results, Tryz.results83, go_sem, rv, gv]
    · exact below_two _ _ _
end
end Ino
end Go.Proofs.YtilolepbfmcbgaaGreatDoor
/- The chapter's example; InodeEncodes, walked. -/
namespace Go.Proofs.YtilolepbfmcbgaaGreatDoor
open Go.RowKit Go.MapKept
namespace Ino
open Lin

theorem nums_ex : nums 1 3 = 196609 := by decide
theorem may_ex : may ((1 : Nat) : Int) (((3 : Nat) : Int) - 1) ((5 : Nat) : Int) = true := by decide

set_option maxHeartbeats 1000000 in
theorem lives_any (w : World) : Calls Tryz.prog 106 #[] w fun r w' => r = .returned (.bool true) ∧ Below w.heap.size w w' := by
  have he : Calls Tryz.prog 61 #[.agg #[.int .i64 1, .int .i64 2, .int .i64 5]] w fun r w' => ∃ g : Nat, w.heap.size ≤ g ∧ r = .returned (.tuple #[.slice (some ⟨g, 0, none⟩) 8 8, .int .i64 0]) ∧ w'.rowIs g 121 8 (rowOf (full 1 3 5)) ∧ Below w.heap.size w w' := encode_full w 1 3 5 2 (by decide) (by decide) may_ex
  have HE := Lib.hid he
  have H2 := Lib.hid Crc.lives_any
  have H3 := Lib.hid Pack.lives_any
  clear he
  go_enter Tryz.func106, Tryz.ntmps106
  go_wp2_with fail
  refine HE.out.mono ?_
  rintro e w0 ⟨g, _, rfl, hrow, hb⟩
  have HR1 := Lib.hid hrow
  have HB1 := Lib.hid hb
  clear hrow hb HE
  go_wp2_with fail
  refine (H2.out _).mono ?_
  rintro e w2 ⟨rfl, hb⟩
  have HR2 := Lib.hid (row_keep HR1.out hb)
  have HB2 := Lib.hid (HB1.out.trans (hb.mono HB1.out.size))
  clear hb HR1 HB1
  go_wp2_with fail
  refine (H3.out _).mono ?_
  rintro e w3 ⟨rfl, hb⟩
  have HR3 := Lib.hid (row_keep HR2.out hb)
  have HB3 := Lib.hid (HB2.out.trans (hb.mono HB2.out.size))
  clear hb HR2 HB2
  have hc1 : w3.cell? ⟨g, 0, none⟩ = some (.int .u64 196609) := by
    rw [HR3.out.cell (i := 0) (by omega)]
    show some (Value.int .u64 ((nums 1 3 : Nat) : Int)) = _
    rw [nums_ex]
    rfl
  go_wp2
  go_ret
  exact ⟨rfl, HB3.out⟩

theorem ref_any (w : World) (k h s : Int) : Calls Tryz.prog 45 #[.agg #[.int .i64 k, .int .i64 h, .int .i64 s]] w fun r w' => r = .returned (.agg #[.int .i64 k, .int .i64 h, .int .i64 s]) ∧ Below w.heap.size w w' := by
  go_enter Tryz.func45, Tryz.ntmps45
  go_wp2
  refine bodyPost_ret (v := .agg #[.int .i64 k, .int .i64 h, .int .i64 s]) ?_ rfl ⟨rfl, ?_⟩
  · simp [results, Tryz.results45, go_sem]
  · exact below_two _ _ _

end Ino
end Go.Proofs.YtilolepbfmcbgaaGreatDoor
/- The document's May and Encode. -/
namespace Go.Proofs.YtilolepbfmcbgaaGreatDoor
open Go.RowKit Go.MapKept
namespace Slo
open Lin

theorem ret_bool {a b : Bool} (h : a = true ↔ b = true) : Ending.returned (Value.bool a) = Ending.returned (Value.bool b) := by rw [Bool.eq_iff_iff.2 h]

set_option maxHeartbeats 1000000 in
theorem refMay_any (w : World) (s c n : Int) :
    Calls Tryz.prog 179 #[.agg #[.int .i64 s, .int .i64 c, .int .i64 n]] w fun r w' => r = .returned (.bool (may s c n)) ∧ Below w.heap.size w w' := by
  go_enter Tryz.func179, Tryz.ntmps179
  go_wp2
  all_goals go_ret
  all_goals refine ⟨ret_bool ?_, (Below.refl _ _).alloc (Nat.le_refl _) _⟩
  all_goals refine Iff.trans ?_ may_iff.symm
  all_goals unfold May
  all_goals simp only [decide_eq_true_eq, Bool.false_eq_true, false_iff] at *
  all_goals omega

theorem refEncode_no (w : World) (s c n : Int) (hm : may s c n = false) :
    Calls Tryz.prog 159 #[.agg #[.int .i64 s, .int .i64 c, .int .i64 n]] w fun r w' => r = .returned (.tuple #[.int .u64 0, .bool false]) ∧ Below w.heap.size w w' := by
  have HM := Lib.hid (fun w => refMay_any w s c n)
  have HE := Lib.hid hm
  clear hm
  have HB := Lib.hid ((Below.refl w.heap.size w).alloc (Nat.le_refl _) (.cells #[.int .i64 s, .int .i64 c, .int .i64 n] 152))
  go_enter Tryz.func159, Tryz.ntmps159
  go_wp2_with fail
  refine (HM.out _).mono ?_
  rintro e w' ⟨rfl, hb⟩
  rw [HE.out]
  have HB1 := Lib.hid (HB.out.trans (hb.mono HB.out.size))
  clear hb
  go_wp2
  go_ret2
  exact ⟨rfl, HB1.out⟩

theorem one_crc (w : World) {x : Nat} (h : x < 18446744073709551616) : Crc.Wds (w.alloc (.cells #[.int .u64 (x : Int)] 121)) (some ⟨w.heap.size, 0, none⟩) [x] :=
  ⟨fun y hy => by
    obtain rfl : y = x := by simpa using hy
    exact h, by simp, fun j hj => by
    have : j < 1 := hj
    match j, this with
    | 0, _ => exact ⟨w.heap.size, 0, rfl, by simp, Pack.alloc_cell _ _ _ _⟩⟩
theorem refBytes_one (w : World) {x : Nat} (h : x < 18446744073709551616) : Calls Tryz.prog 117 #[.slice (some ⟨w.heap.size, 0, none⟩) 1 1] (w.alloc (.cells #[.int .u64 (x : Int)] 121)) fun e w' => e = .returned (.string (Crc.str (Crc.wb x))) ∧ Below w.heap.size w w' := by
  refine (Crc.bytes_any _ 1 _ (one_crc w h) (by simp)).mono ?_
  rintro e w' ⟨rfl, hb⟩
  have hb0 := (Below.refl w.heap.size w).alloc (Nat.le_refl _) (.cells #[.int .u64 (x : Int)] 121)
  have e8 : Crc.wflat [x] = Crc.wb x := by simp [Crc.wflat]
  rw [e8]
  exact ⟨rfl, hb0.trans (hb.mono hb0.size)⟩
theorem tx_six (x : Nat) : Crc.tx ((Crc.str (Crc.wb x)).extract 0 6) = six x := by
  have h := Crc.tx_str (Crc.wb_byt x)
  unfold six
  rw [← h]
  unfold Crc.tx
  rw [ByteArray.data_extract, Array.toList_extract, List.extract_eq_take_drop, List.drop_zero, List.map_take]
  rw [show (Crc.str (List.map UInt8.toNat (Crc.str (Crc.wb x)).data.toList)) = Crc.str (Crc.wb x) by
    show Crc.str (Crc.tx (Crc.str (Crc.wb x))) = _
    rw [h]]
theorem refSum_six (w : World) (s c q : Nat) : Calls Tryz.prog 180 #[.string ((Crc.str (Crc.wb (nums s c q))).extract 0 6)] w fun e w' => e = .returned (.int .u16 (sum s c q : Nat)) ∧ w = w' := by
  have h := Crc.ref16_any w ((Crc.str (Crc.wb (nums s c q))).extract 0 6) (by
    rw [← Crc.tx_len, tx_six, six_len]
    omega)
  rw [tx_six] at h
  exact h
theorem str8 (x : Nat) : (Crc.str (Crc.wb x)).size = 8 := by rw [Crc.str_size, Crc.wb_len]

set_option maxHeartbeats 2000000 in
set_option maxRecDepth 100000 in
theorem refEncode_yes (w : World) (s c q : Nat) (n : Int) (hn : n = nx q) (hm : may s c (nx q) = true) :
    Calls Tryz.prog 159 #[.agg #[.int .i64 (s : Int), .int .i64 (c : Int), .int .i64 n]] w fun r w' => r = .returned (.tuple #[.int .u64 (wd s c q : Nat), .bool true]) ∧ Below w.heap.size w w' := by
  obtain ⟨h1, h2, h3, h4⟩ := may_lt hm
  have hs64 : s < 65536 := by omega
  have hc64 : c < 65536 := by omega
  have HM := Lib.hid (fun w => refMay_any w s c n)
  have HE := Lib.hid (show may s c n = true by rw [hn]; exact hm)
  have hnl := nums_lt hs64 hc64 h4
  have hsl := sum_lt s c q
  clear hm h1 h2 h3
  have HB := Lib.hid ((Below.refl w.heap.size w).alloc (Nat.le_refl _) (.cells #[.int .i64 (s : Int), .int .i64 (c : Int), .int .i64 n] 152))
  have HX := Lib.hid (boxed w s c n 152)
  by_cases hq : q = 65535
  · subst hq
    rw [nx_none] at hn
    subst hn
    go_enter Tryz.func159, Tryz.ntmps159
    go_wp2_with fail
    refine (HM.out _).mono ?_
    rintro e w1 ⟨rfl, hb⟩
    rw [HE.out]
    have HB1 := Lib.hid (HB.out.trans (hb.mono HB.out.size))
    have HX1 := Lib.hid (HX.out.keep hb)
    have hc0 := HX1.out.c0
    have hc1 := HX1.out.c1
    have hc2 := HX1.out.c2
    clear hb HX
    go_wp2_with fail
    rw [show ((s : Int) + 65536 * (c : Int) + 281470681743360) = ((nums s c 65535 : Nat) : Int) by unfold nums; omega]
    refine (refBytes_one _ (x := nums s c 65535) (by omega)).mono ?_
    rintro e w2 ⟨rfl, hb⟩
    have HB2 := Lib.hid (HB1.out.trans (hb.mono HB1.out.size))
    have h8 := str8 (nums s c 65535)
    have HR := Lib.hid (fun w => refSum_six w s c 65535)
    have HWD := Lib.hid (show ((wd s c 65535 : Nat) : Int) = ((nums s c 65535 : Nat) : Int) + 281474976710656 * ((sum s c 65535 : Nat) : Int) by unfold wd; omega)
    clear hb HB1 HX1 hc0 hc1 hc2
    generalize Crc.str (Crc.wb (nums s c 65535)) = T at *
    go_wp2_with fail
    refine (HR.out _).mono ?_
    rintro e w' ⟨rfl, rfl⟩
    go_wp2
    go_ret2
    exact ⟨by rw [HWD.out]; rfl, HB2.out⟩
  · rw [nx_some hq] at hn
    subst hn
    have hq0 : ¬ (q : Int) < 0 := by omega
    go_enter Tryz.func159, Tryz.ntmps159
    go_wp2_with fail
    refine (HM.out _).mono ?_
    rintro e w1 ⟨rfl, hb⟩
    rw [HE.out]
    have HB1 := Lib.hid (HB.out.trans (hb.mono HB.out.size))
    have HX1 := Lib.hid (HX.out.keep hb)
    have hc0 := HX1.out.c0
    have hc1 := HX1.out.c1
    have hc2 := HX1.out.c2
    clear hb HX
    go_wp2_with fail
    rw [show ((s : Int) + 65536 * (c : Int) + 4294967296 * (q : Int)) = ((nums s c q : Nat) : Int) by unfold nums; omega]
    refine (refBytes_one _ (x := nums s c q) (by omega)).mono ?_
    rintro e w2 ⟨rfl, hb⟩
    have HB2 := Lib.hid (HB1.out.trans (hb.mono HB1.out.size))
    have h8 := str8 (nums s c q)
    have HR := Lib.hid (fun w => refSum_six w s c q)
    have HWD := Lib.hid (show ((wd s c q : Nat) : Int) = ((nums s c q : Nat) : Int) + 281474976710656 * ((sum s c q : Nat) : Int) by unfold wd; omega)
    clear hb HB1 HX1 hc0 hc1 hc2
    generalize Crc.str (Crc.wb (nums s c q)) = T at *
    go_wp2_with fail
    refine (HR.out _).mono ?_
    rintro e w' ⟨rfl, rfl⟩
    go_wp2
    go_ret2
    exact ⟨by rw [HWD.out]; rfl, HB2.out⟩
end Slo
end Go.Proofs.YtilolepbfmcbgaaGreatDoor
/- The document's decoding. -/
namespace Go.Proofs.YtilolepbfmcbgaaGreatDoor
open Go.RowKit Go.MapKept
namespace Slo
open Lin

/-- the slot, and whether there is one -/
def rv (q : Option (Nat × Nat × Nat)) : Value := .tuple #[gv q, .bool q.isSome]

theorem own_under (w : World) (t : TypeId) (o : Obj) : Own ((w.alloc (.cells #[.int .i64 0, .int .i64 0, .int .i64 0] t)).alloc o) w.heap.size 0 0 0 :=
  (owned w 0 0 0 t).keep ((Below.refl _ (w.alloc (.cells #[.int .i64 0, .int .i64 0, .int .i64 0] t))).alloc (Nat.le_refl _) o)
theorem below_two (w : World) (o o' : Obj) : Below w.heap.size w ((w.alloc o).alloc o') := by
  have hb := (Below.refl w.heap.size w).alloc (Nat.le_refl _) o
  exact hb.alloc hb.size _

set_option maxHeartbeats 2000000 in
set_option maxRecDepth 100000 in
theorem refDecode_any (w : World) (x : Nat) (hx : x < 18446744073709551616) :
    Calls Tryz.prog 129 #[.int .u64 (x : Int)] w fun r w' => r = .returned (rv (dec x)) ∧ Below w.heap.size w w' := by
  obtain ⟨s, hs⟩ : ∃ s, s = x % 65536 := ⟨_, rfl⟩
  obtain ⟨c, hc⟩ : ∃ c, c = x / 65536 % 65536 := ⟨_, rfl⟩
  obtain ⟨q, hq⟩ : ∃ q, q = x / 4294967296 % 65536 := ⟨_, rfl⟩
  have hs1 : s < 65536 := by omega
  have hc1 : c < 65536 := by omega
  have hq1 : q < 65536 := by omega
  have HD := Lib.hid (show dec x = if may s c (nx q) = true ∧ x = wd s c q then some (s, c, q) else none by
    unfold dec
    simp only [← hs, ← hc, ← hq])
  have HXS := Lib.hid (show (x : Int) % 65536 = (s : Int) by omega)
  have HXC := Lib.hid (show (x : Int) / 65536 % 65536 = (c : Int) by omega)
  have HXQ := Lib.hid (show (x : Int) / 4294967296 % 65536 = (q : Int) by omega)
  clear hs hc hq
  by_cases hq : q = 65535
  · subst hq
    have hbe : ((x : Int) / 4294967296 % 65536 == 65535) = true := by rw [HXQ.out]; rfl
    go_enter Tryz.func129, Tryz.ntmps129
    go_wp2_with fail
    rw [HXS.out, HXC.out]
    have HX2 := Lib.hid (own_under w 152 (.cells #[.int .i64 (s : Int), .int .i64 (c : Int), .int .i64 (-1)] 152))
    have HG2 := Lib.hid (boxed_at (w := w.alloc (.cells #[.int .i64 0, .int .i64 0, .int .i64 0] 152)) (World.size_alloc _ _) s c (-1) 152)
    have HB2 := Lib.hid (below_two w (.cells #[.int .i64 0, .int .i64 0, .int .i64 0] 152) (.cells #[.int .i64 (s : Int), .int .i64 (c : Int), .int .i64 (-1)] 152))
    clear HXS HXC HXQ hbe
    generalize (w.alloc (.cells #[.int .i64 0, .int .i64 0, .int .i64 0] 152)).alloc (.cells #[.int .i64 (s : Int), .int .i64 (c : Int), .int .i64 (-1)] 152) = w2 at *
    cases hmay : may s c (nx 65535) with
    | false =>
      have HNO := Lib.hid (show dec x = none by rw [HD.out, if_neg (fun h => by rw [hmay] at h; simp at h)])
      refine (refEncode_no _ s c (-1) (by rw [← nx_none]; exact hmay)).mono ?_
      rintro e w3 ⟨rfl, hb3⟩
      have HX3 := Lib.hid (HX2.out.keep hb3)
      have HB3 := Lib.hid (HB2.out.trans (hb3.mono HB2.out.size))
      have hc0 := HX3.out.box.c0
      have hc1 := HX3.out.box.c1
      have hc2 := HX3.out.box.c2
      have hf0 := HX3.out.f 0
      have hf1 := HX3.out.f 1
      have hf2 := HX3.out.f 2
      clear hb3 hmay HX2 HB2 HD HG2
      go_wp2
      rw [HNO.out]
      refine bodyPost_ret (v := rv none) ?_ rfl ⟨rfl, ?_⟩
      · simp [results, Tryz.results129, go_sem, rv, gv, hc0, hc1, hc2]
      · exact ((HB3.out.setCell (Nat.le_refl _) _).setCell (Nat.le_refl _) _).setCell (Nat.le_refl _) _
    | true =>
      refine (refEncode_yes _ s c 65535 (-1) (nx_none).symm hmay).mono ?_
      rintro e w3 ⟨rfl, hb3⟩
      have HX3 := Lib.hid (HX2.out.keep hb3)
      have HG3 := Lib.hid (HG2.out.keep hb3)
      have HB3 := Lib.hid (HB2.out.trans (hb3.mono HB2.out.size))
      have hc0 := HX3.out.box.c0
      have hc1 := HX3.out.box.c1
      have hc2 := HX3.out.box.c2
      have hf0 := HX3.out.f 0
      have hf1 := HX3.out.f 1
      have hf2 := HX3.out.f 2
      have hg0 := HG3.out.c0
      have hg1 := HG3.out.c1
      have hg2 := HG3.out.c2
      have HM := Lib.hid hmay
      clear hb3 hmay HX2 HB2 HG2
      by_cases hls : x = wd s c 65535
      · have HNO := Lib.hid (show dec x = some (s, c, 65535) by rw [HD.out, if_pos ⟨HM.out, hls⟩])
        have hbe : (((wd s c 65535 : Nat) : Int) != ((x : Nat) : Int)) = false := by rw [← hls]; simp
        clear hls HD HM
        go_wp2
        rw [HNO.out]
        refine bodyPost_ret (v := rv (some (s, c, 65535))) ?_ rfl ⟨rfl, ?_⟩
        · simp [results, Tryz.results129, go_sem, rv, gv, hc0, hc1, hc2, nx_none]
        · exact ((HB3.out.setCell (Nat.le_refl _) _).setCell (Nat.le_refl _) _).setCell (Nat.le_refl _) _
      · have HNO := Lib.hid (show dec x = none by rw [HD.out, if_neg (fun h => hls h.2)])
        have hbe : (((wd s c 65535 : Nat) : Int) != ((x : Nat) : Int)) = true := by simp; omega
        clear hls HD HM
        go_wp2
        rw [HNO.out]
        refine bodyPost_ret (v := rv none) ?_ rfl ⟨rfl, ?_⟩
        · simp [results, Tryz.results129, go_sem, rv, gv, hc0, hc1, hc2]
        · exact ((HB3.out.setCell (Nat.le_refl _) _).setCell (Nat.le_refl _) _).setCell (Nat.le_refl _) _
  · have hbe : ((x : Int) / 4294967296 % 65536 == 65535) = false := by rw [HXQ.out]; simp; omega
    have HNX := Lib.hid (nx_some hq)
    clear hq
    go_enter Tryz.func129, Tryz.ntmps129
    go_wp2_with fail
    rw [HXS.out, HXC.out, HXQ.out]
    have HX2 := Lib.hid (own_under w 152 (.cells #[.int .i64 (s : Int), .int .i64 (c : Int), .int .i64 (q : Int)] 152))
    have HG2 := Lib.hid (boxed_at (w := w.alloc (.cells #[.int .i64 0, .int .i64 0, .int .i64 0] 152)) (World.size_alloc _ _) s c (q : Int) 152)
    have HB2 := Lib.hid (below_two w (.cells #[.int .i64 0, .int .i64 0, .int .i64 0] 152) (.cells #[.int .i64 (s : Int), .int .i64 (c : Int), .int .i64 (q : Int)] 152))
    clear HXS HXC HXQ hbe
    generalize (w.alloc (.cells #[.int .i64 0, .int .i64 0, .int .i64 0] 152)).alloc (.cells #[.int .i64 (s : Int), .int .i64 (c : Int), .int .i64 (q : Int)] 152) = w2 at *
    cases hmay : may s c (nx q) with
    | false =>
      have HNO := Lib.hid (show dec x = none by rw [HD.out, if_neg (fun h => by rw [hmay] at h; simp at h)])
      refine (refEncode_no _ s c (q : Int) (by rw [← HNX.out]; exact hmay)).mono ?_
      rintro e w3 ⟨rfl, hb3⟩
      have HX3 := Lib.hid (HX2.out.keep hb3)
      have HB3 := Lib.hid (HB2.out.trans (hb3.mono HB2.out.size))
      have hc0 := HX3.out.box.c0
      have hc1 := HX3.out.box.c1
      have hc2 := HX3.out.box.c2
      have hf0 := HX3.out.f 0
      have hf1 := HX3.out.f 1
      have hf2 := HX3.out.f 2
      clear hb3 hmay HX2 HB2 HD HG2
      go_wp2
      rw [HNO.out]
      refine bodyPost_ret (v := rv none) ?_ rfl ⟨rfl, ?_⟩
      · simp [results, Tryz.results129, go_sem, rv, gv, hc0, hc1, hc2]
      · exact ((HB3.out.setCell (Nat.le_refl _) _).setCell (Nat.le_refl _) _).setCell (Nat.le_refl _) _
    | true =>
      refine (refEncode_yes _ s c q (q : Int) (HNX.out).symm hmay).mono ?_
      rintro e w3 ⟨rfl, hb3⟩
      have HX3 := Lib.hid (HX2.out.keep hb3)
      have HG3 := Lib.hid (HG2.out.keep hb3)
      have HB3 := Lib.hid (HB2.out.trans (hb3.mono HB2.out.size))
      have hc0 := HX3.out.box.c0
      have hc1 := HX3.out.box.c1
      have hc2 := HX3.out.box.c2
      have hf0 := HX3.out.f 0
      have hf1 := HX3.out.f 1
      have hf2 := HX3.out.f 2
      have hg0 := HG3.out.c0
      have hg1 := HG3.out.c1
      have hg2 := HG3.out.c2
      have HM := Lib.hid hmay
      clear hb3 hmay HX2 HB2 HG2
      by_cases hls : x = wd s c q
      · have HNO := Lib.hid (show dec x = some (s, c, q) by rw [HD.out, if_pos ⟨HM.out, hls⟩])
        have hbe : (((wd s c q : Nat) : Int) != ((x : Nat) : Int)) = false := by rw [← hls]; simp
        clear hls HD HM
        go_wp2
        rw [HNO.out]
        refine bodyPost_ret (v := rv (some (s, c, q))) ?_ rfl ⟨rfl, ?_⟩
        · simp [results, Tryz.results129, go_sem, rv, gv, hc0, hc1, hc2, HNX.out]
        · exact ((HB3.out.setCell (Nat.le_refl _) _).setCell (Nat.le_refl _) _).setCell (Nat.le_refl _) _
      · have HNO := Lib.hid (show dec x = none by rw [HD.out, if_neg (fun h => hls h.2)])
        have hbe : (((wd s c q : Nat) : Int) != ((x : Nat) : Int)) = true := by simp; omega
        clear hls HD HM
        go_wp2
        rw [HNO.out]
        refine bodyPost_ret (v := rv none) ?_ rfl ⟨rfl, ?_⟩
        · simp [results, Tryz.results129, go_sem, rv, gv, hc0, hc1, hc2]
        · exact ((HB3.out.setCell (Nat.le_refl _) _).setCell (Nat.le_refl _) _).setCell (Nat.le_refl _) _
end Slo
end Go.Proofs.YtilolepbfmcbgaaGreatDoor
/- The chapter's example; SlotEncodes, walked. -/
namespace Go.Proofs.YtilolepbfmcbgaaGreatDoor
open Go.RowKit Go.MapKept
namespace Slo
open Lin

theorem may_ex : may ((1 : Nat) : Int) ((2 : Nat) : Int) (nx 3) = true := by decide
theorem and_ex : bits .and .u64 ((wd 1 2 3 : Nat) : Int) 281474976710655 = 12885032961 := by decide +kernel

set_option maxHeartbeats 1000000 in
theorem lives_any (w : World) : Calls Tryz.prog 107 #[] w fun r w' => r = .returned (.bool true) ∧ Below w.heap.size w w' := by
  have he : Calls Tryz.prog 65 #[.agg #[.int .i64 1, .int .i64 2, .int .i64 3]] w fun r w' => r = .returned (.tuple #[.int .u64 (wd 1 2 3 : Nat), .int .i64 0]) ∧ Below w.heap.size w w' := encode_yes w 1 2 3 3 (by decide) may_ex
  have HE := Lib.hid he
  have H2 := Lib.hid Crc.lives_any
  have H3 := Lib.hid Pack.lives_any
  have hx := and_ex
  generalize wd 1 2 3 = x at *
  clear he
  go_enter Tryz.func107, Tryz.ntmps107
  go_wp2_with fail
  refine HE.out.mono ?_
  rintro e w0 ⟨rfl, hb⟩
  have HB1 := Lib.hid hb
  clear hb HE
  go_wp2_with fail
  refine (H2.out _).mono ?_
  rintro e w2 ⟨rfl, hb⟩
  have HB2 := Lib.hid (HB1.out.trans (hb.mono HB1.out.size))
  clear hb HB1
  go_wp2_with fail
  refine (H3.out _).mono ?_
  rintro e w3 ⟨rfl, hb⟩
  have HB3 := Lib.hid (HB2.out.trans (hb.mono HB2.out.size))
  clear hb HB2
  go_wp2
  go_ret
  exact ⟨rfl, HB3.out⟩

end Slo
end Go.Proofs.YtilolepbfmcbgaaGreatDoor
/- Memory of four ints: in a block, of the call's own, beside a row of words; four fields, four widths. -/
namespace Go.Proofs.YtilolepbfmcbgaaGreatDoor
open Go.RowKit Go.MapKept
namespace Lin

/-- four ints lie in block b -/
structure Box4 (w : World) (b : Nat) (n m s r : Int) : Prop where
  lt : b < w.heap.size
  c0 : w.cell? ⟨b, 0, none⟩ = some (.int .i64 n)
  c1 : w.cell? ⟨b, 1, none⟩ = some (.int .i64 m)
  c2 : w.cell? ⟨b, 2, none⟩ = some (.int .i64 s)
  c3 : w.cell? ⟨b, 3, none⟩ = some (.int .i64 r)
theorem Box4.keep {w w' : World} {b : Nat} {n m s r : Int} (h : Box4 w b n m s r) (hb : Below w.heap.size w w') : Box4 w' b n m s r :=
  ⟨Nat.lt_of_lt_of_le h.lt hb.size, (hb.cell (p := ⟨b, 0, none⟩) h.lt).trans h.c0, (hb.cell (p := ⟨b, 1, none⟩) h.lt).trans h.c1, (hb.cell (p := ⟨b, 2, none⟩) h.lt).trans h.c2, (hb.cell (p := ⟨b, 3, none⟩) h.lt).trans h.c3⟩
theorem Box4.drew {w : World} {b : Nat} {n m s r : Int} (h : Box4 w b n m s r) : Box4 w.drew b n m s r := ⟨h.lt, h.c0, h.c1, h.c2, h.c3⟩
theorem Box4.drewN {w : World} {b : Nat} {n m s r : Int} (h : Box4 w b n m s r) (k : Nat) : Box4 (w.drewN k) b n m s r := ⟨h.lt, h.c0, h.c1, h.c2, h.c3⟩
theorem boxed4 (w : World) (n m s r : Int) (t : TypeId) : Box4 (w.alloc (.cells #[.int .i64 n, .int .i64 m, .int .i64 s, .int .i64 r] t)) w.heap.size n m s r :=
  ⟨by simp, World.cell?_alloc_mark w _ t _ 0, World.cell?_alloc_mark w _ t _ 1, World.cell?_alloc_mark w _ t _ 2, World.cell?_alloc_mark w _ t _ 3⟩
theorem boxed4_at {w : World} {k : Nat} (hk : w.heap.size = k) (n m s r : Int) (t : TypeId) : Box4 (w.alloc (.cells #[.int .i64 n, .int .i64 m, .int .i64 s, .int .i64 r] t)) k n m s r := by
  subst hk
  exact boxed4 w n m s r t

/-- four ints of the call's own in block b -/
structure Own4 (w : World) (b : Nat) (n m s r : Int) : Prop where
  box : Box4 w b n m s r
  f : ∀ o, w.frozen? ⟨b, o, none⟩ = false
theorem Own4.keep {w w' : World} {b : Nat} {n m s r : Int} (h : Own4 w b n m s r) (hb : Below w.heap.size w w') : Own4 w' b n m s r :=
  ⟨h.box.keep hb, fun o => (hb.frozen (p := ⟨b, o, none⟩) h.box.lt).trans (h.f o)⟩
theorem Own4.drew {w : World} {b : Nat} {n m s r : Int} (h : Own4 w b n m s r) : Own4 w.drew b n m s r := ⟨h.box.drew, h.f⟩
theorem Own4.drewN {w : World} {b : Nat} {n m s r : Int} (h : Own4 w b n m s r) (k : Nat) : Own4 (w.drewN k) b n m s r := ⟨h.box.drewN k, h.f⟩
theorem owned4 (w : World) (n m s r : Int) (t : TypeId) : Own4 (w.alloc (.cells #[.int .i64 n, .int .i64 m, .int .i64 s, .int .i64 r] t)) w.heap.size n m s r :=
  ⟨boxed4 w n m s r t, fun o => (World.rowIs_alloc w #[.int .i64 n, .int .i64 m, .int .i64 s, .int .i64 r] t (fun i => if i = 0 then .int .i64 n else if i = 1 then .int .i64 m else if i = 2 then .int .i64 s else .int .i64 r) (fun i hi => by
    have : i < 4 := hi
    match i, this with
    | 0, _ => rfl
    | 1, _ => rfl
    | 2, _ => rfl
    | 3, _ => rfl)).frozen o⟩

/-- four ints in block b, the words in block g; what was there ahead of N is as it was -/
structure En4 (w0 : World) (N b g : Nat) (n m s r : Int) (l : List Nat) (w : World) : Prop where
  box : Box4 w b n m s r
  row : w.rowIs g 121 8 (rowOf l)
  bg : b ≠ g
  below : Below N w0 w
  nN : N ≤ g
theorem En4.keep {w0 w w' : World} {N b g : Nat} {n m s r : Int} {l : List Nat} (h : En4 w0 N b g n m s r l w) (hb : Below w.heap.size w w') (hN : N ≤ w.heap.size) : En4 w0 N b g n m s r l w' :=
  ⟨h.box.keep hb, h.row.of_block (hb.block _ h.row.lt), h.bg, h.below.trans (hb.mono hN), h.nN⟩
theorem En4.drew {w0 w : World} {N b g : Nat} {n m s r : Int} {l : List Nat} (h : En4 w0 N b g n m s r l w) : En4 w0 N b g n m s r l w.drew :=
  ⟨h.box.drew, h.row.drew, h.bg, h.below.drew, h.nN⟩
theorem En4.set {w0 w : World} {N b g : Nat} {n m s r : Int} {l l' : List Nat} (h : En4 w0 N b g n m s r l w) (i x : Nat) (e : ∀ j, j < 8 → (if j = i then x else l[j]?.getD 0) = l'[j]?.getD 0) : En4 w0 N b g n m s r l' (w.setCell ⟨g, i, none⟩ (.int .u64 (x : Int))) :=
  ⟨⟨by simpa using h.box.lt, (cell_set_other h.bg _).trans h.box.c0, (cell_set_other h.bg _).trans h.box.c1, (cell_set_other h.bg _).trans h.box.c2, (cell_set_other h.bg _).trans h.box.c3⟩,
   (h.row.set i (.int .u64 (x : Int))).congr (fun j hj => by
    have := e j hj
    unfold rowOf
    rw [← this]
    split <;> rfl), h.bg, h.below.setCell h.nN _, h.nN⟩

theorem fds_four (w : World) {n m s r : Nat} (hn : n < 65536) (hm : m < 65536) (hs : s < 65536) (hr : r < 65536) : Pack.Fds (w.alloc (.cells #[.int .i64 16, .int .u64 (n : Int), .int .i64 16, .int .u64 (m : Int), .int .i64 16, .int .u64 (s : Int), .int .i64 16, .int .u64 (r : Int)] 162)) (some ⟨w.heap.size, 0, none⟩) [⟨16, n⟩, ⟨16, m⟩, ⟨16, s⟩, ⟨16, r⟩] :=
  ⟨fun f hf => by
    simp only [List.mem_cons, List.not_mem_nil, or_false] at hf
    rcases hf with rfl | rfl | rfl | rfl <;> exact ⟨by simp only; omega, by simp only; omega, by simp only; omega⟩, by simp, fun j hj => by
    have : j < 4 := hj
    match j, this with
    | 0, _ => exact ⟨w.heap.size, 0, rfl, by simp, Pack.alloc_cell _ _ _ _, Pack.alloc_cell _ _ _ _⟩
    | 1, _ => exact ⟨w.heap.size, 0, rfl, by simp, Pack.alloc_cell _ _ _ _, Pack.alloc_cell _ _ _ _⟩
    | 2, _ => exact ⟨w.heap.size, 0, rfl, by simp, Pack.alloc_cell _ _ _ _, Pack.alloc_cell _ _ _ _⟩
    | 3, _ => exact ⟨w.heap.size, 0, rfl, by simp, Pack.alloc_cell _ _ _ _, Pack.alloc_cell _ _ _ _⟩⟩

theorem nts_four (w : World) : Pack.Nts (w.alloc (.cells #[.int .i64 16, .int .i64 16, .int .i64 16, .int .i64 16] 3)) (some ⟨w.heap.size, 0, none⟩) [16, 16, 16, 16] :=
  ⟨fun f hf => by
    obtain rfl : f = 16 := by simpa using hf
    exact ⟨by decide, by decide⟩, by decide, fun j hj => by
    have : j < 4 := hj
    match j, this with
    | 0, _ => exact ⟨w.heap.size, 0, rfl, by simp, Pack.alloc_cell _ _ _ _⟩
    | 1, _ => exact ⟨w.heap.size, 0, rfl, by simp, Pack.alloc_cell _ _ _ _⟩
    | 2, _ => exact ⟨w.heap.size, 0, rfl, by simp, Pack.alloc_cell _ _ _ _⟩
    | 3, _ => exact ⟨w.heap.size, 0, rfl, by simp, Pack.alloc_cell _ _ _ _⟩⟩
end Lin
end Go.Proofs.YtilolepbfmcbgaaGreatDoor
/- A record's line as a list of words, whether a record may be, and whose a list is. -/
namespace Go.Proofs.YtilolepbfmcbgaaGreatDoor
open Go.RowKit Go.MapKept
namespace Rec
open Lin

/-- it may be -/
def May (s f t c : Int) : Prop := (0 ≤ s ∧ s ≤ 65533) ∧ (0 ≤ f ∧ f ≤ 65533) ∧ (0 ≤ t ∧ t ≤ 65533) ∧ (1 ≤ c ∧ c ≤ 65534)
instance (s f t c : Int) : Decidable (May s f t c) := by unfold May; infer_instance
def may (s f t c : Int) : Bool := decide (May s f t c)

/-- the first word -/
def nums (s f t : Nat) : Nat := 1 + 65536 * s + 4294967296 * f + 281474976710656 * t
/-- the words ahead of the sum -/
def front (s f t c : Nat) : List Nat := [nums s f t, c, 0, 0, 0, 0, 0]
/-- their sum -/
def sum (s f t c : Nat) : Nat := Crc.S32 (Crc.wflat (front s f t c))
/-- the empty line -/
def zero : List Nat := [0, 0, 0, 0, 0, 0, 0, 0]
/-- a record's line -/
def ln (s f t c : Nat) : List Nat := [nums s f t, c, 0, 0, 0, 0, 0, sum s f t c]

theorem ln_len (s f t c : Nat) : (ln s f t c).length = 8 := rfl
theorem front_len (s f t c : Nat) : (front s f t c).length = 7 := rfl

theorem nums_lt {s f t : Nat} (hs : s < 65536) (hf : f < 65536) (ht : t < 65536) : nums s f t < 18446744073709551616 := by unfold nums; omega
theorem sum_lt (s f t c : Nat) : sum s f t c < 4294967296 := s32_lt _
theorem nums_pos (s f t : Nat) : nums s f t ≠ 0 := by unfold nums; omega
theorem nums_get {s f t : Nat} (hs : s < 65536) (hf : f < 65536) (_ht : t < 65536) : nums s f t / 65536 % 65536 = s ∧ nums s f t / 4294967296 % 65536 = f ∧ nums s f t / 281474976710656 = t := by
  unfold nums
  omega

theorem front_u64 {s f t c : Nat} (hs : s < 65536) (hf : f < 65536) (ht : t < 65536) (hc : c < 18446744073709551616) : ∀ x ∈ front s f t c, x < 18446744073709551616 := by
  intro x hx
  have h1 := nums_lt hs hf ht
  simp only [front, List.mem_cons, List.not_mem_nil, or_false] at hx
  rcases hx with rfl | rfl | rfl | rfl | rfl | rfl | rfl <;> omega
theorem full_u64 {s f t c : Nat} (hs : s < 65536) (hf : f < 65536) (ht : t < 65536) (hc : c < 18446744073709551616) : ∀ x ∈ ln s f t c, x < 18446744073709551616 := by
  intro x hx
  have h1 := nums_lt hs hf ht
  have h2 := sum_lt s f t c
  simp only [ln, List.mem_cons, List.not_mem_nil, or_false] at hx
  rcases hx with rfl | rfl | rfl | rfl | rfl | rfl | rfl | rfl <;> omega
theorem zero_u64 : ∀ x ∈ zero, x < 18446744073709551616 := by decide

/-- the numbers' bounds -/
theorem may_lt {s f t c : Nat} (h : may s f t c = true) : s ≤ 65533 ∧ f ≤ 65533 ∧ t ≤ 65533 ∧ 1 ≤ c ∧ c ≤ 65534 := by
  have h := of_decide_eq_true h
  unfold May at h
  omega
theorem may_nat {s f t c : Int} (e : may s f t c = true) : ∃ s' f' t' c' : Nat, s = (s' : Int) ∧ f = (f' : Int) ∧ t = (t' : Int) ∧ c = (c' : Int) := by
  have e := of_decide_eq_true e
  unfold May at e
  obtain ⟨s, rfl⟩ := Int.eq_ofNat_of_zero_le (show 0 ≤ s by omega)
  obtain ⟨f, rfl⟩ := Int.eq_ofNat_of_zero_le (show 0 ≤ f by omega)
  obtain ⟨t, rfl⟩ := Int.eq_ofNat_of_zero_le (show 0 ≤ t by omega)
  obtain ⟨c, rfl⟩ := Int.eq_ofNat_of_zero_le (show 0 ≤ c by omega)
  exact ⟨s, f, t, c, rfl, rfl, rfl, rfl⟩

theorem ln_u64 {s f t c : Nat} (h : may s f t c = true) : ∀ x ∈ ln s f t c, x < 18446744073709551616 := by
  obtain ⟨h1, h2, h3, h4, h5⟩ := may_lt h
  exact full_u64 (by omega) (by omega) (by omega) (by omega)

theorem ln_zero (s f t c : Nat) : ln s f t c ≠ zero := by
  intro h
  unfold ln zero at h
  injection h with h _
  exact nums_pos s f t h

theorem pk_nums {s f t : Nat} (hs : s < 65536) (hf : f < 65536) (ht : t < 65536) : Pack.pk 0 0 [⟨16, 1⟩, ⟨16, s⟩, ⟨16, f⟩, ⟨16, t⟩] = some (nums s f t, 64) := by
  unfold nums
  simp [Pack.pk, hs, hf, ht]
  omega

theorem split_nums {x : Nat} (hx : x < 18446744073709551616) : Pack.split x [16, 16, 16, 16] = some [x % 65536, x / 65536 % 65536, x / 4294967296 % 65536, x / 281474976710656] := by
  have h : Pack.tot 0 [16, 16, 16, 16] = some 64 := by decide
  unfold Pack.split
  rw [h]
  have e : (2 : Nat) ^ 64 = 18446744073709551616 := rfl
  have : x / 18446744073709551616 = 0 := by omega
  simp only [e, this]
  simp [Pack.sp, Nat.div_div_eq_div_mul]
  omega

/-- whose it is -/
def dec (l : List Nat) : Option (Nat × Nat × Nat × Nat) :=
  let x : Nat := l[0]?.getD 0
  let c : Nat := l[1]?.getD 0
  let s : Nat := x / 65536 % 65536
  let f : Nat := x / 4294967296 % 65536
  let t : Nat := x / 281474976710656
  if l.length = 8 ∧ may s f t c = true ∧ l = ln s f t c then some (s, f, t, c) else none

theorem dec_ln {s f t c : Nat} (h : may s f t c = true) : dec (ln s f t c) = some (s, f, t, c) := by
  obtain ⟨h1, h2, h3, h4, h5⟩ := may_lt h
  obtain ⟨e1, e2, e3⟩ := nums_get (s := s) (f := f) (t := t) (by omega) (by omega) (by omega)
  have e : (ln s f t c)[0]?.getD 0 = nums s f t := rfl
  have e' : (ln s f t c)[1]?.getD 0 = c := rfl
  unfold dec
  simp only [e, e', e1, e2, e3]
  exact if_pos ⟨ln_len s f t c, h, trivial⟩

theorem dec_some {l : List Nat} {s f t c : Nat} (h : dec l = some (s, f, t, c)) : may s f t c = true ∧ l = ln s f t c := by
  unfold dec at h
  simp only at h
  split at h
  · rename_i hc
    injection h with h
    injection h with h1 h2
    injection h2 with h2 h3
    injection h3 with h3 h4
    subst h1 h2 h3 h4
    exact hc.2
  · cases h

/-- what is no line of one that may be -/
theorem dec_none {l : List Nat} (h : ∀ s f t c : Nat, may s f t c = true → l ≠ ln s f t c) : dec l = none := by
  cases e : dec l with
  | none => rfl
  | some q =>
    obtain ⟨s, f, t, c⟩ := q
    have := dec_some e
    exact absurd this.2 (h s f t c this.1)
theorem dec_zero : dec zero = none := dec_none (fun s f t c _ e => ln_zero s f t c e.symm)

/-- what a line is: 0 empty, 1 full, 2 torn -/
def st (l : List Nat) : Int := if l = zero then 0 else if (dec l).isSome = true then 1 else 2
theorem st_zero : st zero = 0 := if_pos rfl
theorem st_some {l : List Nat} {q : Nat × Nat × Nat × Nat} (h : dec l = some q) : st l = 1 := by
  unfold st
  have h0 : l ≠ zero := by
    intro e
    rw [e, dec_zero] at h
    cases h
  rw [if_neg h0, h]
  rfl
theorem st_none {l : List Nat} (h0 : l ≠ zero) (h : dec l = none) : st l = 2 := by
  unfold st
  rw [if_neg h0, h]
  rfl
end Rec
end Go.Proofs.YtilolepbfmcbgaaGreatDoor
/- within, isBlock, May, isEmpty, walked; the document's May. -/
namespace Go.Proofs.YtilolepbfmcbgaaGreatDoor
open Go.RowKit Go.MapKept
namespace Rec
open Lin

theorem within_any (w : World) (n a b : Int) :
    Calls Tryz.prog 186 #[.int .i64 n, .int .i64 a, .int .i64 b] w fun e w' => e = .returned (.bool (decide (a ≤ n ∧ n ≤ b))) ∧ w = w' := by
  go_enter Tryz.func186, Tryz.ntmps186
  go_wp2
  · rename_i h
    go_ret
    exact ⟨by simp [h], rfl⟩
  · rename_i h
    go_ret
    refine ⟨?_, rfl⟩
    have : ¬ a ≤ n := by omega
    simp [this]

theorem block_any (w : World) (n : Int) :
    Calls Tryz.prog 185 #[.int .i64 n] w fun e w' => e = .returned (.bool (decide (0 ≤ n ∧ n ≤ 65533))) ∧ w = w' := by
  have HW := Lib.hid (fun w => within_any w n 0 65533)
  generalize decide (0 ≤ n ∧ n ≤ 65533) = b at *
  go_enter Tryz.func185, Tryz.ntmps185
  go_wp2_with fail
  refine (HW.out _).mono ?_
  rintro e w' ⟨rfl, rfl⟩
  go_wp2
  go_ret
  exact ⟨rfl, rfl⟩

set_option maxHeartbeats 1000000 in
theorem may_any (w : World) (s f t c : Int) :
    Calls Tryz.prog 172 #[.agg #[.int .i64 s, .int .i64 f, .int .i64 t, .int .i64 c]] w fun r w' => r = .returned (.bool (may s f t c)) ∧ Below w.heap.size w w' := by
  have HB := Lib.hid ((Below.refl w.heap.size w).alloc (Nat.le_refl _) (.cells #[.int .i64 s, .int .i64 f, .int .i64 t, .int .i64 c] 212))
  have HS := Lib.hid (fun w => block_any w s)
  have HF := Lib.hid (fun w => block_any w f)
  have HT := Lib.hid (fun w => block_any w t)
  have HC := Lib.hid (fun w => within_any w c 1 65534)
  by_cases h0 : 0 ≤ s ∧ s ≤ 65533
  · skip
    by_cases h1 : 0 ≤ f ∧ f ≤ 65533
    · skip
      by_cases h2 : 0 ≤ t ∧ t ≤ 65533
      · skip
        by_cases h3 : 1 ≤ c ∧ c ≤ 65534
        · have HE := Lib.hid (show may s f t c = true by unfold may May; exact decide_eq_true ⟨h0, h1, h2, h3⟩)
          have E0 := Lib.hid (decide_eq_true h0)
          have E1 := Lib.hid (decide_eq_true h1)
          have E2 := Lib.hid (decide_eq_true h2)
          have E3 := Lib.hid (decide_eq_true h3)
          clear h0 h1 h2 h3
          go_enter Tryz.func172, Tryz.ntmps172
          go_wp2_with fail
          refine (HS.out _).mono ?_
          rintro e w' ⟨rfl, rfl⟩
          rw [E0.out]
          go_wp2_with fail
          refine (HF.out _).mono ?_
          rintro e w' ⟨rfl, rfl⟩
          rw [E1.out]
          go_wp2_with fail
          refine (HT.out _).mono ?_
          rintro e w' ⟨rfl, rfl⟩
          rw [E2.out]
          go_wp2_with fail
          refine (HC.out _).mono ?_
          rintro e w' ⟨rfl, rfl⟩
          rw [E3.out]
          go_wp2
          go_ret
          exact ⟨by rw [HE.out]; rfl, HB.out⟩
        · have HE := Lib.hid (show may s f t c = false by unfold may May; exact decide_eq_false (fun h => h3 h.2.2.2))
          have E0 := Lib.hid (decide_eq_true h0)
          have E1 := Lib.hid (decide_eq_true h1)
          have E2 := Lib.hid (decide_eq_true h2)
          have E3 := Lib.hid (decide_eq_false h3)
          clear h0 h1 h2 h3
          go_enter Tryz.func172, Tryz.ntmps172
          go_wp2_with fail
          refine (HS.out _).mono ?_
          rintro e w' ⟨rfl, rfl⟩
          rw [E0.out]
          go_wp2_with fail
          refine (HF.out _).mono ?_
          rintro e w' ⟨rfl, rfl⟩
          rw [E1.out]
          go_wp2_with fail
          refine (HT.out _).mono ?_
          rintro e w' ⟨rfl, rfl⟩
          rw [E2.out]
          go_wp2_with fail
          refine (HC.out _).mono ?_
          rintro e w' ⟨rfl, rfl⟩
          rw [E3.out]
          go_wp2
          go_ret
          exact ⟨by rw [HE.out]; rfl, HB.out⟩
      · have HE := Lib.hid (show may s f t c = false by unfold may May; exact decide_eq_false (fun h => h2 h.2.2.1))
        have E0 := Lib.hid (decide_eq_true h0)
        have E1 := Lib.hid (decide_eq_true h1)
        have E2 := Lib.hid (decide_eq_false h2)
        clear h0 h1 h2
        go_enter Tryz.func172, Tryz.ntmps172
        go_wp2_with fail
        refine (HS.out _).mono ?_
        rintro e w' ⟨rfl, rfl⟩
        rw [E0.out]
        go_wp2_with fail
        refine (HF.out _).mono ?_
        rintro e w' ⟨rfl, rfl⟩
        rw [E1.out]
        go_wp2_with fail
        refine (HT.out _).mono ?_
        rintro e w' ⟨rfl, rfl⟩
        rw [E2.out]
        go_wp2
        go_ret
        exact ⟨by rw [HE.out]; rfl, HB.out⟩
    · have HE := Lib.hid (show may s f t c = false by unfold may May; exact decide_eq_false (fun h => h1 h.2.1))
      have E0 := Lib.hid (decide_eq_true h0)
      have E1 := Lib.hid (decide_eq_false h1)
      clear h0 h1
      go_enter Tryz.func172, Tryz.ntmps172
      go_wp2_with fail
      refine (HS.out _).mono ?_
      rintro e w' ⟨rfl, rfl⟩
      rw [E0.out]
      go_wp2_with fail
      refine (HF.out _).mono ?_
      rintro e w' ⟨rfl, rfl⟩
      rw [E1.out]
      go_wp2
      go_ret
      exact ⟨by rw [HE.out]; rfl, HB.out⟩
  · have HE := Lib.hid (show may s f t c = false by unfold may May; exact decide_eq_false (fun h => h0 h.1))
    have E0 := Lib.hid (decide_eq_false h0)
    clear h0
    go_enter Tryz.func172, Tryz.ntmps172
    go_wp2_with fail
    refine (HS.out _).mono ?_
    rintro e w' ⟨rfl, rfl⟩
    rw [E0.out]
    go_wp2
    go_ret
    exact ⟨by rw [HE.out]; rfl, HB.out⟩

theorem may_iff {s f t c : Int} : may s f t c = true ↔ May s f t c := decide_eq_true_iff
theorem ret_bool {a b : Bool} (h : a = true ↔ b = true) : Ending.returned (Value.bool a) = Ending.returned (Value.bool b) := by rw [Bool.eq_iff_iff.2 h]

section
variable {w : World}
end

theorem all_zero {l : List Nat} (hl : l.length = 8) : l.all (fun x => x == 0) = decide (l = zero) := by
  have e : ∀ l : List Nat, l.all (fun x => x == 0) = true → l = List.replicate l.length 0 := fun l h => List.eq_replicate_iff.2 ⟨rfl, fun x hx => by simpa using List.all_eq_true.1 h x hx⟩
  cases h : l.all (fun x => x == 0) with
  | true =>
    have := e l h
    rw [hl] at this
    exact (decide_eq_true this).symm
  | false =>
    refine (decide_eq_false (fun h0 => ?_)).symm
    rw [h0] at h
    revert h
    decide
end Rec
end Go.Proofs.YtilolepbfmcbgaaGreatDoor
