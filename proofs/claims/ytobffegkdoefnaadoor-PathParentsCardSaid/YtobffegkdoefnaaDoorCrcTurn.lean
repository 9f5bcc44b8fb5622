/- Bytes some bits of which are turned, and that the sums tell it. -/
import Derived.Test.YtobffegkdoefnaaDoorCrcText
namespace Go.Proofs.YtobffegkdoefnaaDoor
open Go.RowKit Go.MapKept
namespace Crc

/-- of l the bits from f on are turned that m says, m of i bits -/
structure Trn (l : List Nat) (f i m : Nat) (c : List Nat) : Prop where
  byt : Byt c
  len : c.length = l.length
  lt : m < 2 ^ i
  eq : le c = le l ^^^ m * 2 ^ f
  zero : m = 0 → c = l

theorem Trn.refl {l : List Nat} (h : Byt l) (f : Nat) : Trn l f 0 0 l := ⟨h, rfl, by simp, by simp, fun _ => rfl⟩
theorem Trn.skip {l c : List Nat} {f i m : Nat} (h : Trn l f i m c) : Trn l f (i + 1) m c := ⟨h.byt, h.len, by have := h.lt; rw [Nat.pow_succ]; omega, h.eq, h.zero⟩

theorem xor_shift (m i f : Nat) : (m ^^^ 2 ^ i) * 2 ^ f = m * 2 ^ f ^^^ 2 ^ (f + i) := by
  apply Nat.eq_of_testBit_eq
  intro j
  rw [Nat.pow_add, Nat.mul_comm (2 ^ f) (2 ^ i)]
  simp only [Nat.testBit_xor, Nat.testBit_mul_two_pow]
  by_cases h : f ≤ j <;> simp [h]

theorem bit_in {m i : Nat} (h : m < 2 ^ i) : m ^^^ 2 ^ i ≠ 0 ∧ m ^^^ 2 ^ i < 2 ^ (i + 1) := by
  constructor
  · intro h0
    have : (m ^^^ 2 ^ i).testBit i = true := by
      rw [Nat.testBit_xor, Nat.testBit_lt_two_pow h, Nat.testBit_two_pow_self]
      rfl
    rw [h0] at this
    simp at this
  · refine Nat.xor_lt_two_pow ?_ ?_
    · rw [Nat.pow_succ]; omega
    · exact Nat.pow_lt_pow_right (by omega) (by omega)

theorem Byt.set {l : List Nat} (h : Byt l) (j : Nat) {x : Nat} (hx : x < 256) : Byt (l.set j x) := fun b hb => by
  rcases List.mem_or_eq_of_mem_set hb with h1 | h1
  · exact h b h1
  · omega

theorem xor_bit_lt {x t : Nat} (hx : x < 256) (ht : t < 8) : x ^^^ 2 ^ t < 256 := Nat.xor_lt_two_pow (n := 8) hx (Nat.pow_lt_pow_right (by omega) ht)

theorem get_byt {l : List Nat} (h : Byt l) (j : Nat) : l[j]?.getD 0 < 256 := by
  rcases Nat.lt_or_ge j l.length with h1 | h1
  · rw [List.getElem?_eq_getElem h1]
    exact h _ (List.getElem_mem h1)
  · rw [List.getElem?_eq_none h1]
    simp

/-- one bit more -/
theorem Trn.turn {l c : List Nat} {f i m : Nat} (h : Trn l f i m c) (hk : (f + i) / 8 < l.length) : Trn l f (i + 1) (m ^^^ 2 ^ i) (c.set ((f + i) / 8) (c[(f + i) / 8]?.getD 0 ^^^ 2 ^ ((f + i) % 8))) := by
  have hb := bit_in h.lt
  have ht : (f + i) % 8 < 8 := Nat.mod_lt _ (by omega)
  refine ⟨h.byt.set _ (xor_bit_lt (get_byt h.byt _) ht), by rw [List.length_set]; exact h.len, hb.2, ?_, fun h0 => absurd h0 hb.1⟩
  rw [le_set c _ _ h.byt (by rw [h.len]; exact hk) ht, h.eq, Nat.xor_assoc, xor_shift]
  congr 2
  congr 1
  omega

theorem Trn.told32 {l c : List Nat} {f i m : Nat} (h : Trn l f i m c) (hl : Byt l) (hi : i ≤ 32) (hf : f ≤ 8 * l.length) (h0 : m ≠ 0) : S32 c ≠ S32 l := by
  have hm : m < 2 ^ (31 + 1) := Nat.lt_of_lt_of_le h.lt (Nat.pow_le_pow_right (by omega) hi)
  have := burst (p := P32) (w := 31) (by decide) (by decide) 4294967295 f m l c hl h.byt h.len hm h0 hf h.eq
  have h1 := sm32_lt c 4294967295 (by omega) h.byt
  have h2 := sm32_lt l 4294967295 (by omega) hl
  unfold S32
  omega

theorem Trn.told16 {l d : List Nat} {f i m : Nat} (h : Trn (l.map (rev 8)) f i m (d.map (rev 8))) (hi : i ≤ 16) (hf : f ≤ 8 * l.length) (h0 : m ≠ 0) : S16 d ≠ S16 l := by
  have hm : m < 2 ^ (15 + 1) := Nat.lt_of_lt_of_le h.lt (Nat.pow_le_pow_right (by omega) hi)
  have hb := burst (p := P16) (w := 15) (by decide) (by decide) 65535 f m (l.map (rev 8)) (d.map (rev 8)) (Byt.rev8 l) h.byt h.len hm h0 (by rw [List.length_map]; exact hf) h.eq
  intro e
  exact hb (rev_inj (w := 16) (sm16_lt _ _ (by omega) (Byt.rev8 d)) (sm16_lt _ _ (by omega) (Byt.rev8 l)) e)

theorem map_set_rev (d : List Nat) (j t : Nat) (ht : t < 8) : (d.set j (d[j]?.getD 0 ^^^ 2 ^ (7 - t))).map (rev 8) = (d.map (rev 8)).set j ((d.map (rev 8))[j]?.getD 0 ^^^ 2 ^ t) := by
  rw [List.map_set, rev_turn ht]
  congr 2
  rw [List.getElem?_map]
  cases d[j]? with
  | none => decide
  | some x => rfl

theorem map_rev_inj {l d : List Nat} (hl : Byt l) (hd : Byt d) (h : d.map (rev 8) = l.map (rev 8)) : d = l := by
  have hlen : d.length = l.length := by
    have := congrArg List.length h
    simpa using this
  refine List.ext_getElem hlen (fun j h1 h2 => ?_)
  have := congrArg (·[j]?) h
  simp only [List.getElem?_map, List.getElem?_eq_getElem h1, List.getElem?_eq_getElem h2, Option.map_some, Option.some.injEq] at this
  exact rev_inj (w := 8) (hd _ (List.getElem_mem h1)) (hl _ (List.getElem_mem h2)) this

theorem str_inj {l c : List Nat} (hl : Byt l) (hc : Byt c) (h : str c = str l) : c = l := by
  rw [← tx_str hl, ← tx_str hc, h]
end Crc
end Go.Proofs.YtobffegkdoefnaaDoor
