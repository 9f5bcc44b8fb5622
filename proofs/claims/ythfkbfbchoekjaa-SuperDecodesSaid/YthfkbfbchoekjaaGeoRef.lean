/- The document's own places. -/
import Derived.Test.YthfkbfbchoekjaaGeoLives
namespace Go.Proofs.Ythfkbfbchoekjaa
open Go.RowKit Go.MapKept
namespace Geo

/-- a place, if there is one -/
def inn (a i n : Int) : Int := if 0 ≤ i ∧ i < n then a else -1
theorem inn_yes {a i n : Int} (h : 0 ≤ i ∧ i < n) : inn a i n = a := if_pos h
theorem inn_no {a i n : Int} (h : ¬ (0 ≤ i ∧ i < n)) : inn a i n = -1 := if_neg h
theorem fill_any (w : World) (n : Int) (h1 : 0 ≤ n) (h2 : n ≤ 10000000) :
    Calls Try.prog 30 #[.int .i64 n] w fun r w' => r = .returned (.int .i64 (lines n)) ∧ w = w' := by
  have HL := Lib.hid (show lines n = (n + 7) / 8 * 8 from rfl)
  go_enter Try.func30, Try.ntmps30
  go_wp2
  go_loop [0] (fun v => ∃ p : Int, n ≤ p ∧ p ≤ (n + 7) / 8 * 8 ∧ v = .int .i64 p) (fun v => ((n + 7) / 8 * 8 - intOf v).toNat)
  case atStart => exact ⟨n, by omega, by omega, rfl⟩
  case round =>
    obtain ⟨p, hp1, hp2, rfl⟩ := hrel
    by_cases hz : p % 8 = 0
    · go_wp2
      go_ret
      have e : p = (n + 7) / 8 * 8 := by omega
      exact ⟨by rw [HL.out, ← e]; rfl, rfl⟩
    · go_wp2
      go_round
      case rel => exact ⟨p + 1, by omega, by omega, rfl⟩
      case measure => simp [intOf]; omega

/-- the document's parts -/
def parts (n m s : Int) : Value := if may n m s = true then .agg #[.int .i64 16, .int .i64 (16 + m * 8), .int .i64 (bmAt n m), .int .i64 (bkAt n m), .int .i64 (fin n m s)] else .agg #[.int .i64 0, .int .i64 0, .int .i64 0, .int .i64 0, .int .i64 0]
theorem parts_yes {n m s : Int} (h : may n m s = true) : parts n m s = .agg #[.int .i64 16, .int .i64 (16 + m * 8), .int .i64 (bmAt n m), .int .i64 (bkAt n m), .int .i64 (fin n m s)] := if_pos h
theorem parts_no {n m s : Int} (h : may n m s = false) : parts n m s = .agg #[.int .i64 0, .int .i64 0, .int .i64 0, .int .i64 0, .int .i64 0] := if_neg (by simp [h])

theorem size_at {p s : Int} (h1 : Sz p) (h2 : p = 64 ∨ p < 2 * s) (h3 : ¬ (p < 4096 ∧ p < s)) (h4 : Sz s) : p = s := by
  unfold Sz at h1 h4
  omega
theorem fill_bm (w : World) (n m : Int) (n1 : 1 ≤ n) (n2 : n ≤ 65534) (m1 : 1 ≤ m) (m2 : m ≤ 65534) :
    Calls Try.prog 30 #[.int .i64 (16 + 8 * m + n)] w fun r w' => r = .returned (.int .i64 (bmAt n m)) ∧ w = w' := by
  have e : lines (16 + 8 * m + n) = bmAt n m := by unfold bmAt lines; omega
  have := fill_any w (16 + 8 * m + n) (by omega) (by omega)
  rwa [e] at this
theorem fill_bk (w : World) (n m : Int) (n1 : 1 ≤ n) (n2 : n ≤ 65534) (m1 : 1 ≤ m) (m2 : m ≤ 65534) :
    Calls Try.prog 30 #[.int .i64 (bmAt n m + (n + 63) / 64)] w fun r w' => r = .returned (.int .i64 (bkAt n m)) ∧ w = w' := by
  have e : lines (bmAt n m + (n + 63) / 64) = bkAt n m := by unfold bkAt bmAt lines; omega
  have hb := bm_bounds ⟨n1, n2⟩ ⟨m1, m2⟩
  have := fill_any w (bmAt n m + (n + 63) / 64) (by omega) (by omega)
  rwa [e] at this

set_option maxHeartbeats 2000000 in
theorem of_any (w : World) (n m s : Int) :
    Calls Try.prog 13 #[.int .i64 n, .int .i64 m, .int .i64 s] w fun r w' => r = .returned (.tuple #[parts n m s, .bool (may n m s)]) ∧ Below w.heap.size w w' := by
  by_cases h : (1 ≤ n ∧ n ≤ 65534) ∧ (1 ≤ m ∧ m ≤ 65534)
  · obtain ⟨⟨n1, n2⟩, m1, m2⟩ := h
    go_enter Try.func13, Try.ntmps13
    go_wp2
    go_loop [8] (fun v => ∃ p : Int, Sz p ∧ (p = 64 ∨ p < 2 * s) ∧ v = .int .i64 p) (fun v => (4096 - intOf v).toNat)
    case atStart => exact ⟨64, .inl rfl, .inl rfl, rfl⟩
    case round =>
      obtain ⟨p, hp1, hp2, rfl⟩ := hrel
      by_cases hc : p < 4096 ∧ p < s
      · obtain ⟨c1, c2⟩ := hc
        have hb := hp1.bounds
        have hq : Sz (2 * p) := by unfold Sz at hp1 ⊢; omega
        have HQ := Lib.hid hq
        clear hp1 hp2 hq
        go_wp2
        go_round
        case rel => exact ⟨2 * p, HQ.out, .inr (by omega), rfl⟩
        case measure => simp [intOf]; omega
      · by_cases hs : Sz s
        · obtain rfl := size_at hp1 hp2 hc hs
          have hl : ¬ p < p := by omega
          have hb := hp1.bounds
          have HS := Lib.hid hp1
          have hf := fin_bounds ⟨n1, n2⟩ ⟨m1, m2⟩ hp1
          have hbm := bm_bounds ⟨n1, n2⟩ ⟨m1, m2⟩
          have hbk := bk_bounds ⟨n1, n2⟩ ⟨m1, m2⟩
          have e : n * p / 8 = n * (p / 8) := by
            have : n * p = n * (p / 8) * 8 := by rw [Int.mul_assoc, hb.2.2.2.2]
            omega
          have hnp : 0 ≤ n * p ∧ n * p ≤ 300000000 := by omega
          have hbm1 : 0 ≤ bmAt n m := by omega
          have hbm2 : bmAt n m ≤ 600000 := by omega
          have hbk1 : 0 ≤ bkAt n m := by omega
          have hbk2 : bkAt n m ≤ 610000 := by omega
          have HE := Lib.hid (show bkAt n m + n * p / 8 = fin n m p by rw [e]; rfl)
          have HC := Lib.hid (Int.mul_comm 8 m)
          have HF1 := Lib.hid (fun w => fill_bm w n m n1 n2 m1 m2)
          have HF2 := Lib.hid (fun w => fill_bk w n m n1 n2 m1 m2)
          clear hp1 hp2 hs hc hf hbm hbk e hb
          by_cases hlt : fin n m p ≤ 4194304
          · have HM := Lib.hid (may_yes ⟨⟨⟨n1, n2⟩, ⟨m1, m2⟩, HS.out⟩, hlt⟩)
            have hlt' : ¬ 4194304 < bkAt n m + n * p / 8 := by rw [HE.out]; omega
            clear hlt
            go_wp2_with (first
              | (go_at_call 30; with_reducible refine (HF1.out _).mono ?_; rintro e w' ⟨rfl, rfl⟩)
              | (go_at_call 30; with_reducible refine (HF2.out _).mono ?_; rintro e w' ⟨rfl, rfl⟩))
            all_goals
              refine bodyPost_ret (v := .tuple #[parts n m p, .bool (may n m p)]) ?_ rfl ⟨rfl, ?_⟩
              · rw [parts_yes HM.out, HM.out, ← HE.out, ← HC.out]; simp [results, Try.results13, go_sem]
              · exact ((Below.refl _ _).alloc (Nat.le_refl _) _).alloc (by simp) _
          · have HM := Lib.hid (may_no (n := n) (m := m) (s := p) (fun h => hlt h.2))
            have hlt' : 4194304 < bkAt n m + n * p / 8 := by rw [HE.out]; omega
            clear hlt
            go_wp2_with (first
              | (go_at_call 30; with_reducible refine (HF1.out _).mono ?_; rintro e w' ⟨rfl, rfl⟩)
              | (go_at_call 30; with_reducible refine (HF2.out _).mono ?_; rintro e w' ⟨rfl, rfl⟩))
            all_goals
              refine bodyPost_ret (v := .tuple #[parts n m p, .bool (may n m p)]) ?_ rfl ⟨rfl, ?_⟩
              · rw [parts_no HM.out, HM.out]; simp [results, Try.results13, go_sem]
              · exact ((Below.refl _ _).alloc (Nat.le_refl _) _).alloc (by simp) _
        · have hne : ¬ p = s := fun e => hs (e ▸ hp1)
          have HM := Lib.hid (may_no (n := n) (m := m) (s := s) (fun h => hs h.1.2.2))
          clear hp1 hp2 hs
          by_cases h4 : p < 4096
          · have hs : ¬ p < s := by omega
            clear hc
            go_wp2
            refine bodyPost_ret (v := .tuple #[parts n m s, .bool (may n m s)]) ?_ rfl ⟨rfl, ?_⟩
            · rw [parts_no HM.out, HM.out]; simp [results, Try.results13, go_sem]
            · exact (((Below.refl _ _).alloc (Nat.le_refl _) _))
          · clear hc
            go_wp2
            refine bodyPost_ret (v := .tuple #[parts n m s, .bool (may n m s)]) ?_ rfl ⟨rfl, ?_⟩
            · rw [parts_no HM.out, HM.out]; simp [results, Try.results13, go_sem]
            · exact (((Below.refl _ _).alloc (Nat.le_refl _) _))
  · have HM := Lib.hid (may_no (n := n) (m := m) (s := s) (fun h' => h ⟨h'.1.1, h'.1.2.1⟩))
    by_cases h1 : n < 1
    · go_enter Try.func13, Try.ntmps13
      go_wp2
      refine bodyPost_ret (v := .tuple #[parts n m s, .bool (may n m s)]) ?_ rfl ⟨rfl, ?_⟩
      · rw [parts_no HM.out, HM.out]; simp [results, Try.results13, go_sem]
      · exact (((Below.refl _ _).alloc (Nat.le_refl _) _))
    · by_cases h2 : 65534 < n
      · go_enter Try.func13, Try.ntmps13
        go_wp2
        refine bodyPost_ret (v := .tuple #[parts n m s, .bool (may n m s)]) ?_ rfl ⟨rfl, ?_⟩
        · rw [parts_no HM.out, HM.out]; simp [results, Try.results13, go_sem]
        · exact (((Below.refl _ _).alloc (Nat.le_refl _) _))
      · by_cases h3 : m < 1
        · go_enter Try.func13, Try.ntmps13
          go_wp2
          refine bodyPost_ret (v := .tuple #[parts n m s, .bool (may n m s)]) ?_ rfl ⟨rfl, ?_⟩
          · rw [parts_no HM.out, HM.out]; simp [results, Try.results13, go_sem]
          · exact (((Below.refl _ _).alloc (Nat.le_refl _) _))
        · have h4 : 65534 < m := by omega
          clear h
          go_enter Try.func13, Try.ntmps13
          go_wp2
          refine bodyPost_ret (v := .tuple #[parts n m s, .bool (may n m s)]) ?_ rfl ⟨rfl, ?_⟩
          · rw [parts_no HM.out, HM.out]; simp [results, Try.results13, go_sem]
          · exact (((Below.refl _ _).alloc (Nat.le_refl _) _))
end Geo
end Go.Proofs.Ythfkbfbchoekjaa
