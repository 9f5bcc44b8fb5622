/- The document's words of a text. -/
import Derived.Test.YtgpodmjdgcoidaaPackWords
namespace Go.Proofs.Ytgpodmjdgcoidaa
open Go.RowKit Go.MapKept
namespace Pack

/-- a text's bytes -/
def tx (s : ByteArray) : List Nat := s.data.toList.map UInt8.toNat
theorem tx_len (s : ByteArray) : (tx s).length = s.size := by
  unfold tx
  rw [List.length_map, Array.length_toList]
  rfl
theorem tx_byt (s : ByteArray) : Byt (tx s) := by
  intro b hb
  obtain ⟨x, _, rfl⟩ := List.mem_map.1 hb
  exact x.toNat_lt
theorem tx_get {s : ByteArray} {i : Nat} (h : i < s.size) : at0 (tx s) i = (s[i]'h).toNat := by
  have h' : i < s.data.toList.length := by rw [Array.length_toList]; exact h
  simp only [at0, tx, List.getElem?_map, List.getElem?_eq_getElem h', Option.map_some, Option.getD_some]
  rfl
theorem tx_str {l : List Nat} (h : Byt l) : tx (str l) = l := by
  unfold tx str
  rw [List.map_map]
  refine (List.map_congr_left (fun b hb => ?_)).trans (List.map_id l)
  exact ofNat_toNat (h b hb)

theorem wrds_step {b : List Nat} {m : Nat} (h : m < (wrds b).length) : u64s ((wrds b).take (m + 1)) = u64s ((wrds b).take m) ++ [.int .u64 ((part b m 8 : Nat) : Int)] := by
  rw [List.take_succ_eq_append_getElem h, wrds_get]
  simp only [u64s, List.map_append, List.map_cons, List.map_nil]

theorem up_small {b : List Nat} (h : Byt b) (i : Nat) {n : Nat} (hn : n < 8) : up b i n < 72057594037927936 := Nat.lt_of_lt_of_le (up_lt h i n) (Nat.pow_le_pow_right (n := 256) (j := 7) (by omega) (by omega))

section
variable {w : World}
set_option maxHeartbeats 1600000 in
set_option maxRecDepth 100000 in
theorem refWords_any (s : ByteArray) (hs : s.size ≤ 1000000) :
    Calls Try.prog 16 #[.string s] w fun e w' => ∃ (G : Option Addr) (gc : Nat), e = .returned (.slice G (wrds (tx s)).length gc) ∧ Wds w' G (wrds (tx s)) ∧ Below w.heap.size w w' := by
  have hwl : (wrds (tx s)).length = (s.size + 7) / 8 := by rw [wrds_len, tx_len]
  have HWL := Lib.hid hwl
  clear hwl
  go_enter Try.func16, Try.ntmps16
  go_wp2
  go_loopw [3, 4] (fun v i wr => ∃ (m : Nat) (G : Option Addr) (gc : Nat), m ≤ (wrds (tx s)).length ∧ i = .int .i64 (8 * (m : Int)) ∧ v = .slice G m gc ∧ wr.ownsRow w.heap.size 26 1 (.slice G m gc) m (u64s ((wrds (tx s)).take m)) ∧ Below w.heap.size w wr) (fun _ i _ => s.size + 8 - (intOf i).toNat)
  case atStart => exact ⟨0, none, 0, Nat.zero_le _, rfl, rfl, World.ownsRow_nil _ _ _ _, Below.refl _ _⟩
  case round =>
    obtain ⟨m, G, gc, hm, rfl, rfl, hown, hbel⟩ := hrel
    have hwl := HWL.out
    by_cases hlt : 8 * m < s.size
    · have hmw : m < (wrds (tx s)).length := by omega
      have HSt := Lib.hid (wrds_step hmw)
      have HOW := Lib.hid hown
      have HBW := Lib.hid hbel
      have hsz := hbel.size
      have hlt2 : 8 * (m : Int) < (s.size : Int) := by omega
      clear hown hbel hwl
      go_wp2
      go_loopw [5, 6] (fun x k w2 => ∃ (n : Nat), n ≤ 8 ∧ k = .int .i64 (7 - (n : Int)) ∧ x = .int .u64 ((up (tx s) m n : Nat) : Int) ∧ w2 = wr) (fun _ k _ => ((intOf k) + 1).toNat)
      case atStart => exact ⟨0, Nat.zero_le _, rfl, rfl, rfl⟩
      case round =>
        obtain ⟨n, hn, rfl, rfl, rfl⟩ := hrel
        by_cases h8 : n < 8
        · have hus := up_small (tx_byt s) m h8
          have HUP := Lib.hid (show up (tx s) m (n + 1) = 256 * up (tx s) m n + at0 (tx s) (8 * m + (7 - n)) from rfl)
          have hw1 : IntKind.wrap .u64 (256 * ((up (tx s) m n : Nat) : Int)) = 256 * ((up (tx s) m n : Nat) : Int) := by rw [IntKind.wrap_u64]; omega
          by_cases hin : 8 * m + (7 - n) < s.size
          · have hg := tx_get hin
            have hgl : at0 (tx s) (8 * m + (7 - n)) < 256 := at0_lt (tx_byt s) _
            generalize up (tx s) m n = y at *
            go_wp2
            refine ⟨⟨n + 1, by omega, by go_num, ?_, trivial⟩, by simp [intOf]; omega⟩
            rw [HUP.out, hg]
            simp
          · have hz : at0 (tx s) (8 * m + (7 - n)) = 0 := at0_none (by rw [tx_len]; omega)
            rw [hz, Nat.add_zero] at HUP
            clear hz
            generalize up (tx s) m n = y at *
            go_wp2
            refine ⟨⟨n + 1, by omega, by go_num, ?_, trivial⟩, by simp [intOf]; omega⟩
            rw [HUP.out]
            simp
        · obtain rfl : n = 8 := by omega
          rw [up_word]
          have hpl : part (tx s) m 8 < 18446744073709551616 := part_lt (tx_byt s) m 8
          generalize part (tx s) m 8 = y at *
          obtain ⟨i1, hi1, hy0, hy1, hy2⟩ := info_parts u64_info
          have HO := Lib.hid (HOW.out.alloc (.cells #[.int .u64 (y : Int)] 26))
          have HB := Lib.hid (HBW.out.alloc HBW.out.size (.cells #[.int .u64 (y : Int)] 26))
          have hml : m ≤ 1000000 := by have := HWL.out; omega
          go_wp2_with (at_builtin
                       refine wpList_append_own_at _ rfl (.tmp 33) (.tmp 35) 25 rfl w.heap.size 26 i1 (.int .u64 0) 1 8 Try.underlying25 hi1 hy0 hy1 hy2 rfl (by decide) (.slice G m gc) m (u64s ((wrds (tx s)).take m)) rfl HO.out ⟨wr.heap.size, 0, none⟩ 1 1 [.int .u64 (y : Int)] rfl rfl (cell_one_new _ _ _) (by simp [Value.oneCell']) (by unfold maxLen; omega) (by omega) (by simp; omega) ?_
                       intro v' w3 hown3 hgr3 _ hat3
                       obtain ⟨G3, c3, rfl⟩ := row_slice hown3
                       have HO3 := Lib.hid hown3
                       have HB3 := Lib.hid (HB.out.grown hgr3 (by simp; omega) (fun k hk => row_base_lt HOW.out hk))
                       clear hown3 hgr3 hat3)
          refine ⟨⟨m + 1, G3, c3, by omega, by go_num, rfl, ?_, HB3.out⟩, by simp [intOf]; omega⟩
          rw [HSt.out]
          exact HO3.out
    · obtain rfl : m = (wrds (tx s)).length := by omega
      rw [List.take_length] at hown
      have HW := Lib.hid (own_wds hown (wrds_u64 (tx_byt s)) (by omega))
      have HB := Lib.hid hbel
      have hlt2 : ¬ 8 * ((wrds (tx s)).length : Int) < (s.size : Int) := by omega
      clear hown hbel hwl
      go_wp2
      go_ret
      exact ⟨G, ⟨gc, rfl⟩, HW.out, HB.out⟩
end
end Pack
end Go.Proofs.Ytgpodmjdgcoidaa
