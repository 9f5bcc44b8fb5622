/- An entry's bytes as a list of numbers, whether an entry may be, and whose bytes they are. -/
import Derived.Test.YtobffegkdoefnaaDoorCrcTurn
namespace Go.Proofs.YtobffegkdoefnaaDoor
open Go.RowKit Go.MapKept
namespace Ent

/-- it is a name -/
def Right (l : List Nat) : Prop := (1 ≤ l.length ∧ l.length ≤ 48) ∧ l ≠ [46] ∧ l ≠ [46, 46] ∧ ∀ x ∈ l, x ≠ 0 ∧ x ≠ 47
instance (l : List Nat) : Decidable (Right l) := by unfold Right; infer_instance
def right (l : List Nat) : Bool := decide (Right l)
theorem right_iff {l : List Nat} : right l = true ↔ Right l := decide_eq_true_iff
theorem right_no {l : List Nat} (h : ¬ Right l) : right l = false := decide_eq_false h

/-- it may be -/
def may (l : List Nat) (i : Int) : Bool := right l && decide (0 ≤ i ∧ i ≤ 65533)
theorem may_iff {l : List Nat} {i : Int} : may l i = true ↔ Right l ∧ 0 ≤ i ∧ i ≤ 65533 := by
  unfold may
  rw [Bool.and_eq_true, right_iff, decide_eq_true_iff]

/-- a number's four bytes -/
def q4 (x : Nat) : List Nat := [x % 256, x / 256 % 256, x / 65536 % 256, x / 16777216 % 256]
/-- the 60 bytes that are summed -/
def front (l : List Nat) (i : Nat) : List Nat := [i % 256, i / 256 % 256, l.length, 0] ++ l ++ List.replicate (56 - l.length) 0
/-- the bytes -/
def enc (l : List Nat) (i : Nat) : List Nat := front l i ++ q4 (Crc.S32 (front l i))

theorem s32_lt (l : List Nat) : Crc.S32 l < 4294967296 := by
  unfold Crc.S32
  omega

theorem front_len {l : List Nat} (h : l.length ≤ 48) (i : Nat) : (front l i).length = 60 := by
  unfold front
  simp
  omega
theorem q4_len (x : Nat) : (q4 x).length = 4 := rfl
theorem enc_len {l : List Nat} (h : l.length ≤ 48) (i : Nat) : (enc l i).length = 64 := by
  unfold enc
  rw [List.length_append, front_len h, q4_len]
theorem q4_byt (x : Nat) : Crc.Byt (q4 x) := by
  intro b hb
  simp only [q4, List.mem_cons, List.not_mem_nil, or_false] at hb
  omega
theorem front_byt {l : List Nat} (hl : Crc.Byt l) (h : l.length ≤ 48) (i : Nat) : Crc.Byt (front l i) := by
  intro b hb
  unfold front at hb
  simp only [List.mem_append, List.mem_cons, List.not_mem_nil, or_false, List.mem_replicate] at hb
  rcases hb with (hb | hb) | hb
  · omega
  · exact hl b hb
  · omega
theorem enc_byt {l : List Nat} (hl : Crc.Byt l) (h : l.length ≤ 48) (i : Nat) : Crc.Byt (enc l i) := (front_byt hl h i).append (q4_byt _)

/-- the name that bytes tell -/
def name (b : List Nat) : List Nat := (b.drop 4).take (b[2]?.getD 0)
/-- the number that bytes tell -/
def num (b : List Nat) : Nat := b[0]?.getD 0 + 256 * b[1]?.getD 0

theorem enc_cons (l : List Nat) (i : Nat) : enc l i = i % 256 :: i / 256 % 256 :: l.length :: 0 :: (l ++ (List.replicate (56 - l.length) 0 ++ q4 (Crc.S32 (front l i)))) := by
  unfold enc
  conv => lhs; arg 1; unfold front
  simp
theorem name_enc (l : List Nat) (i : Nat) : name (enc l i) = l := by
  unfold name
  rw [enc_cons]
  simp
theorem num_enc (l : List Nat) {i : Nat} (h : i < 65536) : num (enc l i) = i := by
  unfold num
  rw [enc_cons]
  simp
  omega
theorem len_enc (l : List Nat) (i : Nat) : (enc l i)[2]?.getD 0 = l.length := by
  rw [enc_cons]
  rfl

/-- whose they are -/
def dec (b : List Nat) : Option (List Nat × Nat) :=
  if b.length = 64 ∧ b[2]?.getD 0 ≤ 48 ∧ may (name b) (num b : Nat) = true ∧ b = enc (name b) (num b) then some (name b, num b) else none

theorem may_len {l : List Nat} {i : Int} (h : may l i = true) : l.length ≤ 48 := (may_iff.1 h).1.1.2
theorem may_nat {l : List Nat} {i : Int} (h : may l i = true) : ∃ k : Nat, i = (k : Int) ∧ k ≤ 65533 := by
  have := may_iff.1 h
  obtain ⟨k, rfl⟩ := Int.eq_ofNat_of_zero_le this.2.1
  exact ⟨k, rfl, by omega⟩

theorem dec_enc {l : List Nat} {i : Nat} (h : may l (i : Int) = true) : dec (enc l i) = some (l, i) := by
  have h1 := may_len h
  obtain ⟨k, e, hk⟩ := may_nat h
  have h2 : i < 65536 := by omega
  unfold dec
  rw [name_enc, num_enc l h2, len_enc]
  exact if_pos ⟨enc_len h1 i, h1, h, rfl⟩

theorem dec_some {b l : List Nat} {i : Nat} (h : dec b = some (l, i)) : may l (i : Int) = true ∧ b = enc l i := by
  unfold dec at h
  split at h
  · rename_i hc
    injection h with h
    injection h with h1 h2
    subst h1 h2
    exact hc.2.2
  · cases h

/-- what is no bytes of one that may be -/
theorem dec_none {b : List Nat} (h : ∀ (l : List Nat) (i : Nat), may l (i : Int) = true → b ≠ enc l i) : dec b = none := by
  cases e : dec b with
  | none => rfl
  | some q =>
    obtain ⟨l, i⟩ := q
    have := dec_some e
    exact absurd this.2 (h l i this.1)

/-- the text of a text's bytes -/
theorem str_tx (s : ByteArray) : Crc.str (Crc.tx s) = s := by
  unfold Crc.str Crc.tx
  rw [List.map_map]
  have e : (UInt8.ofNat ∘ UInt8.toNat) = id := by
    funext x
    simp
  rw [e, List.map_id]
end Ent
end Go.Proofs.YtobffegkdoefnaaDoor
