/- Right and May, the program's and the document's. -/
import Derived.Test.YtobffegkdoefnaaDoorEntMath
import Derived.Test.YtobffegkdoefnaaDoorCrcRef
import Derived.Test.YtobffegkdoefnaaDoorCrcLives
namespace Go.Proofs.YtobffegkdoefnaaDoor
open Go.RowKit Go.MapKept
namespace Ent

theorem tx_toList (s : ByteArray) : Crc.tx s = s.toList.map UInt8.toNat := by
  obtain ⟨a⟩ := s
  obtain ⟨l⟩ := a
  rw [ByteArray.toList_mk]
  rfl
theorem map_inj {l m : List UInt8} (h : l.map UInt8.toNat = m.map UInt8.toNat) : l = m := by
  induction l generalizing m with
  | nil => cases m with
    | nil => rfl
    | cons => simp at h
  | cons a l ih =>
    cases m with
    | nil => simp at h
    | cons b m =>
      simp only [List.map_cons, List.cons.injEq] at h
      rw [ih h.2, UInt8.toNat_inj.1 h.1]
theorem tx_eq {s : ByteArray} {l : List UInt8} : s.toList = l ↔ Crc.tx s = l.map UInt8.toNat := by
  rw [tx_toList]
  exact ⟨fun h => by rw [h], map_inj⟩

/-- as far as m no byte is wrong -/
def Good (s : ByteArray) (m : Nat) : Prop := ∀ j (h : j < s.size), j < m → (s[j]'h).toNat ≠ 0 ∧ (s[j]'h).toNat ≠ 47
theorem Good.next {s : ByteArray} {m : Nat} (h : Good s m) (hm : m < s.size) (h0 : (s[m]'hm).toNat ≠ 0) (h1 : (s[m]'hm).toNat ≠ 47) : Good s (m + 1) := by
  intro j hj hlt
  rcases Nat.lt_or_ge j m with h2 | h2
  · exact h j hj h2
  · obtain rfl : j = m := by omega
    exact ⟨h0, h1⟩
theorem Good.all {s : ByteArray} (h : Good s s.size) : ∀ x ∈ Crc.tx s, x ≠ 0 ∧ x ≠ 47 := by
  intro x hx
  obtain ⟨j, hj, rfl⟩ := List.getElem_of_mem hx
  have hj' : j < s.size := by rw [Crc.tx_len] at hj; exact hj
  have := Crc.tx_get hj'
  rw [List.getElem?_eq_getElem hj, Option.getD_some] at this
  rw [this]
  exact h j hj' hj'
theorem bad_byte {s : ByteArray} {m : Nat} (hm : m < s.size) (h : (s[m]'hm).toNat = 0 ∨ (s[m]'hm).toNat = 47) : ¬ Right (Crc.tx s) := by
  intro hr
  have hj : m < (Crc.tx s).length := by rw [Crc.tx_len]; exact hm
  have := hr.2.2.2 ((Crc.tx s)[m]'hj) (List.getElem_mem hj)
  have e := Crc.tx_get hm
  rw [List.getElem?_eq_getElem hj, Option.getD_some] at e
  rw [e] at this
  omega

theorem no_right {s : ByteArray} (h : s.size < 1 ∨ 48 < s.size ∨ s.toList = [46] ∨ s.toList = [46, 46]) : ¬ Right (Crc.tx s) := by
  intro hr
  have hl := hr.1
  rw [Crc.tx_len] at hl
  rcases h with h | h | h | h
  · omega
  · omega
  · exact hr.2.1 (tx_eq.1 h)
  · exact hr.2.2.1 (tx_eq.1 h)

set_option maxHeartbeats 1000000 in
theorem right_any (w : World) (s : ByteArray) (hs : s.size ≤ 9223372036854775807) :
    Calls Tryd.prog 30 #[.string s] w fun r w' => r = .returned (.bool (right (Crc.tx s))) ∧ w = w' := by
  by_cases h : s.size < 1 ∨ 48 < s.size ∨ s.toList = [46] ∨ s.toList = [46, 46]
  · have HN := Lib.hid (right_no (no_right h))
    go_enter Tryd.func30, Tryd.ntmps30
    rcases h with h | h | h | h
    all_goals go_wp2
    all_goals go_ret
    all_goals exact ⟨by rw [HN.out]; rfl, rfl⟩
  · have h1 : 1 ≤ s.size := by omega
    have h2 : s.size ≤ 48 := by omega
    have h3 : (s.toList == [46]) = false := by simpa using fun e => h (.inr (.inr (.inl e)))
    have h4 : (s.toList == [46, 46]) = false := by simpa using fun e => h (.inr (.inr (.inr e)))
    have h5 : ¬ s.toList = [46] := fun e => h (.inr (.inr (.inl e)))
    have h6 : ¬ s.toList = [46, 46] := fun e => h (.inr (.inr (.inr e)))
    clear h
    go_enter Tryd.func30, Tryd.ntmps30
    go_wp2
    go_loopw [22] (fun i wr => ∃ m : Nat, m ≤ s.size ∧ i = .int .i64 (m : Int) ∧ w = wr ∧ Good s m) (fun i _ => s.size - (intOf i).toNat)
    case atStart => exact ⟨0, Nat.zero_le _, rfl, rfl, fun j _ h => absurd h (by omega)⟩
    case round =>
      obtain ⟨m, hm, rfl, rfl, hg⟩ := hrel
      have HG := Lib.hid hg
      clear hg
      by_cases hlt : m < s.size
      · go_wp2
        · rename_i hx
          go_ret
          exact ⟨by rw [right_no (bad_byte hlt (.inl hx))]; rfl, rfl⟩
        · rename_i hx
          go_ret
          exact ⟨by rw [right_no (bad_byte hlt (by simp at hx; omega))]; rfl, rfl⟩
        · rename_i hx
          exact ⟨⟨m + 1, by omega, by go_num, trivial, HG.out.next hlt (by simp at hx; omega) (by simp at hx; omega)⟩, by simp [intOf]; omega⟩
      · obtain rfl : m = s.size := by omega
        have HR := Lib.hid (right_iff.2 ⟨⟨by rw [Crc.tx_len]; exact h1, by rw [Crc.tx_len]; exact h2⟩, fun e => h5 (tx_eq.2 e), fun e => h6 (tx_eq.2 e), HG.out.all⟩)
        go_wp2
        go_ret
        exact ⟨by rw [HR.out]; rfl, rfl⟩

set_option maxHeartbeats 1000000 in
theorem refRight_any (w : World) (s : ByteArray) (hs : s.size ≤ 9223372036854775807) :
    Calls Tryd.prog 23 #[.string s] w fun r w' => r = .returned (.bool (right (Crc.tx s))) ∧ w = w' := by
  by_cases h : s.size < 1 ∨ 48 < s.size ∨ s.toList = [46] ∨ s.toList = [46, 46]
  · have HN := Lib.hid (right_no (no_right h))
    go_enter Tryd.func23, Tryd.ntmps23
    rcases h with h | h | h | h
    · have h' : s.toList = [] := tx_eq.2 (List.length_eq_zero_iff.1 (by rw [Crc.tx_len]; omega))
      go_wp2
      go_ret
      exact ⟨by rw [HN.out]; rfl, rfl⟩
    all_goals go_wp2
    all_goals go_ret
    all_goals exact ⟨by rw [HN.out]; rfl, rfl⟩
  · have h1 : 1 ≤ s.size := by omega
    have h2 : s.size ≤ 48 := by omega
    have h3 : (s.toList == [46]) = false := by simpa using fun e => h (.inr (.inr (.inl e)))
    have h4 : (s.toList == [46, 46]) = false := by simpa using fun e => h (.inr (.inr (.inr e)))
    have h5 : ¬ s.toList = [46] := fun e => h (.inr (.inr (.inl e)))
    have h6 : ¬ s.toList = [46, 46] := fun e => h (.inr (.inr (.inr e)))
    have h7 : ¬ s.toList = [] := fun e => by
      have := tx_eq.1 e
      have h8 := Crc.tx_len s
      rw [this] at h8
      simp at h8
      omega
    have h8 : (s.toList == []) = false := by simpa using h7
    clear h
    go_enter Tryd.func23, Tryd.ntmps23
    go_wp2
    go_loopw [3] (fun i wr => ∃ m : Nat, m ≤ s.size ∧ i = .int .i64 (m : Int) ∧ w = wr ∧ Good s m) (fun i _ => s.size - (intOf i).toNat)
    case atStart => exact ⟨0, Nat.zero_le _, rfl, rfl, fun j _ h => absurd h (by omega)⟩
    case round =>
      obtain ⟨m, hm, rfl, rfl, hg⟩ := hrel
      have HG := Lib.hid hg
      clear hg
      by_cases hlt : m < s.size
      · go_wp2
        · rename_i hx
          go_ret
          exact ⟨by rw [right_no (bad_byte hlt (.inl hx))]; rfl, rfl⟩
        · rename_i hx
          go_ret
          exact ⟨by rw [right_no (bad_byte hlt (by simp at hx; omega))]; rfl, rfl⟩
        · rename_i hx
          exact ⟨⟨m + 1, by omega, by go_num, trivial, HG.out.next hlt (by simp at hx; omega) (by simp at hx; omega)⟩, by simp [intOf]; omega⟩
      · obtain rfl : m = s.size := by omega
        have HR := Lib.hid (right_iff.2 ⟨⟨by rw [Crc.tx_len]; exact h1, by rw [Crc.tx_len]; exact h2⟩, fun e => h5 (tx_eq.2 e), fun e => h6 (tx_eq.2 e), HG.out.all⟩)
        go_wp2
        go_ret
        exact ⟨by rw [HR.out]; rfl, rfl⟩
end Ent
end Go.Proofs.YtobffegkdoefnaaDoor
