/- Which of two paths stands ahead: of no program. -/
import Derived.Test.YtobffegkdoefnaaDoorEntRight
import Derived.Laws.Strings
namespace Go.Proofs.YtobffegkdoefnaaDoor
open Go.RowKit Go.MapKept
namespace Pat

theorem bl_irr : ∀ l : List UInt8, Op.bytesLess l l = false
  | [] => rfl
  | a :: x => by
    rw [Op.bytesLess, bl_irr x]
    simp
theorem bl_tot : ∀ l m : List UInt8, l ≠ m → Op.bytesLess l m = !Op.bytesLess m l
  | [], [], h => absurd rfl h
  | [], _ :: _, _ => rfl
  | _ :: _, [], _ => rfl
  | a :: x, b :: y, h => by
    rw [Op.bytesLess, Op.bytesLess]
    by_cases e : a = b
    · subst e
      have hx : x ≠ y := fun e => h (by rw [e])
      rw [bl_tot x y hx]
      simp
    · have h1 : (a == b) = false := by simpa using e
      have h2 : (b == a) = false := by simpa using fun e' => e e'.symm
      rw [h1, h2]
      simp only [Bool.false_and, Bool.or_false]
      have hne : a.toNat ≠ b.toNat := fun h => e (UInt8.toNat_inj.1 h)
      by_cases h3 : a < b
      · have h4 : ¬ b < a := by rw [UInt8.lt_iff_toNat_lt] at *; omega
        simp [h3, h4]
      · have h4 : b < a := by rw [UInt8.lt_iff_toNat_lt] at *; omega
        simp [h3, h4]

/-- is one name ahead of another one? -/
def less (a b : ByteArray) : Bool := Op.bytesLess a.toList b.toList
theorem toList_inj {a b : ByteArray} (h : a.toList = b.toList) : a = b := by
  have h1 := Ent.tx_toList a
  have h2 := Ent.tx_toList b
  rw [h, ← h2] at h1
  rw [← Ent.str_tx a, ← Ent.str_tx b, h1]
theorem less_irr (a : ByteArray) : less a a = false := bl_irr _
theorem less_tot {a b : ByteArray} (h : a ≠ b) : less a b = !less b a := bl_tot _ _ (fun e => h (toList_inj e))

/-- is one path ahead of another one? -/
def bef : List ByteArray → List ByteArray → Bool
  | _, [] => false
  | [], _ :: _ => true
  | a :: x, b :: y => if a = b then bef x y else less a b
/-- 0: the same; below: the first is ahead -/
def cmpL : List ByteArray → List ByteArray → Int
  | [], [] => 0
  | _ :: _, [] => 1
  | [], _ :: _ => -1
  | a :: x, b :: y => if a = b then cmpL x y else if less a b then -1 else 1

theorem cmpL_bef : ∀ x y, decide (cmpL x y < 0) = bef x y
  | [], [] => rfl
  | _ :: _, [] => rfl
  | [], _ :: _ => rfl
  | a :: x, b :: y => by
    rw [cmpL, bef]
    split
    · exact cmpL_bef x y
    · split
      · rename_i h; rw [h]; rfl
      · rename_i h; rw [Bool.not_eq_true] at h; rw [h]; rfl
theorem bef_irr : ∀ x, bef x x = false
  | [] => rfl
  | a :: x => by rw [bef, if_pos rfl, bef_irr x]
theorem bef_tot : ∀ x y, x ≠ y → bef x y = !bef y x
  | [], [], h => absurd rfl h
  | [], _ :: _, _ => rfl
  | _ :: _, [], _ => rfl
  | a :: x, b :: y, h => by
    rw [bef, bef]
    by_cases e : a = b
    · subst e
      rw [if_pos rfl, if_pos rfl]
      exact bef_tot x y (fun e => h (by rw [e]))
    · rw [if_neg e, if_neg (fun e' => e e'.symm)]
      exact less_tot e
theorem bef_asym {x y : List ByteArray} (h : bef x y = true) : bef y x = false := by
  by_cases e : x = y
  · subst e; rw [bef_irr] at h; cases h
  · rw [bef_tot x y e] at h; simpa using h
theorem bef_one {x y : List ByteArray} (h : bef x y = false) (h' : bef y x = false) : x = y := by
  by_cases e : x = y
  · exact e
  · rw [bef_tot x y e, h'] at h; cases h
theorem bef_kid : ∀ (l : List ByteArray) (n : ByteArray), bef l (l ++ [n]) = true
  | [], _ => rfl
  | a :: x, n => by rw [List.cons_append, bef, if_pos rfl, bef_kid x n]
theorem bef_past : ∀ (l o : List ByteArray) (n : ByteArray), bef l o = true → o.take l.length ≠ l → bef (l ++ [n]) o = true
  | [], o, _, _, h => absurd (by simp) h
  | a :: x, [], _, h, _ => by rw [bef] at h; cases h
  | a :: x, b :: y, n, h, h' => by
    rw [bef] at h
    rw [List.cons_append, bef]
    by_cases e : a = b
    · subst e
      rw [if_pos rfl] at h ⊢
      exact bef_past x y n h (fun e => h' (by rw [List.length_cons, List.take_succ_cons, e]))
    · rw [if_neg e] at h ⊢
      exact h

/-! As far as k both are the same. -/
theorem drop_cons {x : List ByteArray} {k : Nat} (h : k < x.length) : x.drop k = x[k] :: x.drop (k + 1) := List.drop_eq_getElem_cons h
theorem drop_end {x : List ByteArray} {k : Nat} (h : x.length ≤ k) : x.drop k = [] := List.drop_eq_nil_of_le h
theorem bef_same {x y : List ByteArray} {k : Nat} (h : k < x.length) (h' : k < y.length) (e : x[k] = y[k]) : bef (x.drop k) (y.drop k) = bef (x.drop (k + 1)) (y.drop (k + 1)) := by
  rw [drop_cons h, drop_cons h', bef, if_pos e]
theorem bef_diff {x y : List ByteArray} {k : Nat} (h : k < x.length) (h' : k < y.length) (e : x[k] ≠ y[k]) : bef (x.drop k) (y.drop k) = less x[k] y[k] := by
  rw [drop_cons h, drop_cons h', bef, if_neg e]
theorem bef_end {x y : List ByteArray} {k : Nat} (h : y.length ≤ k) : bef (x.drop k) (y.drop k) = false := by
  rw [drop_end h]
  cases x.drop k <;> rfl
theorem bef_over {x y : List ByteArray} (h : x.length ≤ y.length) : bef (x.drop x.length) (y.drop x.length) = decide (x.length < y.length) := by
  rw [List.drop_length]
  by_cases e : x.length < y.length
  · rw [drop_cons e, bef, decide_eq_true e]
  · rw [drop_end (by omega), bef, decide_eq_false e]
theorem cmp_same {x y : List ByteArray} {k : Nat} (h : k < x.length) (h' : k < y.length) (e : x[k] = y[k]) : cmpL (x.drop k) (y.drop k) = cmpL (x.drop (k + 1)) (y.drop (k + 1)) := by
  rw [drop_cons h, drop_cons h', cmpL, if_pos e]
theorem cmp_diff {x y : List ByteArray} {k : Nat} (h : k < x.length) (h' : k < y.length) (e : x[k] ≠ y[k]) : cmpL (x.drop k) (y.drop k) = if less x[k] y[k] then -1 else 1 := by
  rw [drop_cons h, drop_cons h', cmpL, if_neg e]
theorem cmp_end {x y : List ByteArray} {k : Nat} (h : k < x.length) (h' : y.length ≤ k) : cmpL (x.drop k) (y.drop k) = 1 := by
  rw [drop_cons h, drop_end h', cmpL]
theorem cmp_over {x y : List ByteArray} (h : x.length ≤ y.length) : cmpL (x.drop x.length) (y.drop x.length) = if x.length < y.length then -1 else 0 := by
  rw [List.drop_length]
  by_cases e : x.length < y.length
  · rw [drop_cons e, cmpL, if_pos e]
  · rw [drop_end (by omega), cmpL, if_neg e]
theorem take_same {x y : List ByteArray} {k : Nat} (h : k < x.length) (h' : k < y.length) (e : x[k] = y[k]) (ht : x.take k = y.take k) : x.take (k + 1) = y.take (k + 1) := by
  rw [List.take_succ_eq_append_getElem h, List.take_succ_eq_append_getElem h', e, ht]
end Pat
end Go.Proofs.YtobffegkdoefnaaDoor
