/- Decode, walked. -/
import Derived.Test.YtobffegkdoefnaaDoorEntEncode
namespace Go.Proofs.YtobffegkdoefnaaDoor
open Go.RowKit Go.MapKept
namespace Ent

/-- an entry, zero if there is none -/
def gv : Option (List Nat × Nat) → Value
  | some (l, k) => .agg #[.string (Crc.str l), .int .i64 (k : Int)]
  | none => .agg #[.string ⟨#[]⟩, .int .i64 0]
/-- the error -/
def ev : Option (List Nat × Nat) → Int
  | some _ => 0
  | none => 2

theorem dec_len {l : List Nat} (h : l.length ≠ 64) : dec l = none := by
  unfold dec
  exact if_neg (fun e => h e.1)
theorem dec_name {l : List Nat} (h : ¬ l[2]?.getD 0 ≤ 48) : dec l = none := by
  unfold dec
  exact if_neg (fun e => h e.2.1)

/-- 64 bytes lie there, of at least so much room -/
structure At64 (w : World) (b o : Nat) (l : List Nat) : Prop where
  bts : Crc.Bts w (some ⟨b, o, none⟩) l
  len : l.length = 64
  lt : b < w.heap.size
theorem At64.cell {w : World} {b o : Nat} {l : List Nat} (h : At64 w b o l) (j : Nat) (hj : j < 64) : w.cell? ⟨b, o + j, none⟩ = some (.int .u8 ((at' l j : Nat) : Int)) := by
  have hl := h.len
  obtain ⟨b', o', e, _, hc⟩ := h.bts.at' j (by omega)
  injection e with e
  injection e with e1 e2
  subst e1 e2
  rw [hc]
  unfold at'
  rw [List.getElem?_eq_getElem (by omega)]
  rfl
theorem At64.keep {w w' : World} {b o : Nat} {l : List Nat} (h : At64 w b o l) (hb : Below w.heap.size w w') : At64 w' b o l := ⟨h.bts.keep hb, h.len, Nat.lt_of_lt_of_le h.lt hb.size⟩
theorem At64.byte {w : World} {b o : Nat} {l : List Nat} (h : At64 w b o l) (j : Nat) : at' l j < 256 := by
  unfold at'
  rcases Nat.lt_or_ge j l.length with h1 | h1
  · rw [List.getElem?_eq_getElem h1]
    exact h.bts.byt _ (List.getElem_mem _)
  · rw [List.getElem?_eq_none h1]
    decide
theorem at64 {w : World} {A : Option Addr} {l : List Nat} (h : Crc.Bts w A l) (hl : l.length = 64) : ∃ b o, A = some ⟨b, o, none⟩ ∧ At64 w b o l := by
  obtain ⟨b, o, rfl, hlt, _⟩ := h.at' 0 (by omega)
  exact ⟨b, o, rfl, h, hl, hlt⟩
theorem At64.name {w : World} {b o : Nat} {l : List Nat} (h : At64 w b o l) : Crc.Bts w (some ⟨b, o + 4, none⟩) (name l) := by
  have hl := h.len
  refine ⟨fun x hx => h.bts.byt x (List.mem_of_mem_drop (List.mem_of_mem_take hx)), ?_, fun j hj => ⟨b, o + 4, rfl, h.lt, ?_⟩⟩
  · unfold Ent.name
    rw [List.length_take, List.length_drop]
    omega
  · have hj' := hj
    unfold Ent.name at hj'
    rw [List.length_take, List.length_drop] at hj'
    have := h.cell (4 + j) (by omega)
    rw [← Nat.add_assoc] at this
    have e : (Ent.name l)[j] = l[4 + j]'(by omega) := by simp only [Ent.name, List.getElem_take, List.getElem_drop]
    rw [this, e]
    unfold at'
    rw [List.getElem?_eq_getElem (by omega)]
    rfl
theorem name_len {l : List Nat} (hl : l.length = 64) (h : at' l 2 ≤ 48) : (name l).length = at' l 2 := by
  unfold name
  rw [List.length_take, List.length_drop]
  unfold at' at h ⊢
  omega

theorem i64_or_nat (a b : Nat) (ha : a < 256) (hb : b < 256) : bits .or .i64 (a : Int) ((b : Int) * 256) = ((a + 256 * b : Nat) : Int) := by
  have hx : a ||| b * 256 = a + 256 * b := by
    have := Nat.shiftLeft_add_eq_or_of_lt (b := a) (i := 8) (show a < 2 ^ 8 from ha) b
    rw [Nat.shiftLeft_eq, show (2 : Nat) ^ 8 = 256 from rfl] at this
    rw [Nat.or_comm]
    omega
  show IntKind.i64.wrap ((BitVec.ofInt 64 (a : Int) ||| BitVec.ofInt 64 ((b : Int) * 256)).toNat : Int) = _
  have e : (b : Int) * 256 = ((b * 256 : Nat) : Int) := by omega
  rw [e, BitVec.toNat_or, ofInt_u64 a (by omega), ofInt_u64 (b * 256) (by omega), hx, IntKind.wrap_i64]
  omega

theorem str_beq {l m : List Nat} (hl : Crc.Byt l) (hm : Crc.Byt m) : ((Crc.str l).toList == (Crc.str m).toList) = decide (l = m) := by
  by_cases h : l = m
  · subst h
    simp
  · rw [decide_eq_false h]
    refine beq_false_of_ne (fun e => h ?_)
    have h1 := Crc.tx_str hl
    have h2 := Crc.tx_str hm
    rw [tx_toList] at h1 h2
    rw [← h1, ← h2, e]

theorem row_enc {W : World} {g : Nat} {l : List Nat} (h : Row W g (at' l)) (hl : l.length = 64) (hb : Crc.Byt l) : Crc.Bts W (some ⟨g, 0, none⟩) l :=
  h.bts 0 l hb (by omega) (fun j hj => by
    rw [Nat.zero_add]
    unfold at'
    rw [List.getElem?_eq_getElem hj]
    rfl)

end Ent
end Go.Proofs.YtobffegkdoefnaaDoor
