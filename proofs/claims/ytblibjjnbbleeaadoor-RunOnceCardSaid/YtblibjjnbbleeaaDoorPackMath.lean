/- Fields in a word, as numbers: widths that may be, the word of fields, a word split. -/
import Derived.Laws.BitsAllLaws
namespace Go.Proofs.YtblibjjnbbleeaaDoor
namespace Pack

/-- what widths come to, behind a, if they may be in one word -/
def tot : Nat → List Int → Option Nat
  | a, [] => some a
  | a, n :: l => if 1 ≤ n ∧ n ≤ 64 - (a : Int) then tot (a + n.toNat) l else none

/-- a field: its width, its value -/
structure Fld where
  n : Int
  v : Nat

/-- the word of fields, behind x of a bits, and how many bits -/
def pk : Nat → Nat → List Fld → Option (Nat × Nat)
  | x, a, [] => some (x, a)
  | x, a, f :: l => if (1 ≤ f.n ∧ f.n ≤ 64 - (a : Int)) ∧ f.v < 2 ^ f.n.toNat then pk (x + f.v * 2 ^ a) (a + f.n.toNat) l else none

/-- a word's values -/
def sp : Nat → List Int → List Nat
  | _, [] => []
  | x, n :: l => x % 2 ^ n.toNat :: sp (x / 2 ^ n.toNat) l

/-- what is left of a word -/
def rest : Nat → List Int → Nat
  | x, [] => x
  | x, n :: l => rest (x / 2 ^ n.toNat) l

theorem tot_append (l m : List Int) : ∀ a, tot a (l ++ m) = (tot a l).bind fun t => tot t m := by
  induction l with
  | nil => intro a; rfl
  | cons n l ih =>
    intro a
    simp only [List.cons_append, tot]
    split
    · exact ih _
    · rfl

theorem tot_le {l : List Int} : ∀ {a t : Nat}, a ≤ 64 → tot a l = some t → a + l.length ≤ t ∧ t ≤ 64 := by
  induction l with
  | nil => intro a t h e; simp only [tot, Option.some.injEq] at e; subst e; simpa using h
  | cons n l ih =>
    intro a t h e
    simp only [tot] at e
    split at e
    · have := ih (by omega) e
      simp only [List.length_cons]
      omega
    · cases e

theorem pk_append (l m : List Fld) : ∀ x a, pk x a (l ++ m) = (pk x a l).bind fun q => pk q.1 q.2 m := by
  induction l with
  | nil => intro x a; rfl
  | cons f l ih =>
    intro x a
    simp only [List.cons_append, pk]
    split
    · exact ih _ _
    · rfl

theorem sp_append (l m : List Int) : ∀ x, sp x (l ++ m) = sp x l ++ sp (rest x l) m := by
  induction l with
  | nil => intro x; rfl
  | cons n l ih => intro x; simp only [List.cons_append, sp, rest, ih]
theorem rest_append (l m : List Int) : ∀ x, rest x (l ++ m) = rest (rest x l) m := by
  induction l with
  | nil => intro x; rfl
  | cons n l ih => intro x; simp only [List.cons_append, rest, ih]
theorem sp_len (l : List Int) : ∀ x, (sp x l).length = l.length := by
  induction l with
  | nil => intro x; rfl
  | cons n l ih => intro x; simp only [sp, List.length_cons, ih]
theorem rest_le (l : List Int) : ∀ x, rest x l ≤ x := by
  induction l with
  | nil => intro x; exact Nat.le_refl _
  | cons n l ih => intro x; exact Nat.le_trans (ih _) (Nat.div_le_self _ _)
theorem sp_le (l : List Int) : ∀ x, ∀ y ∈ sp x l, y ≤ x := by
  induction l with
  | nil => intro x y h; cases h
  | cons n l ih =>
    intro x y h
    rcases List.mem_cons.1 h with rfl | h
    · exact Nat.mod_le _ _
    · exact Nat.le_trans (ih _ y h) (Nat.div_le_self _ _)

theorem rest_tot {l : List Int} : ∀ {a t x : Nat}, tot a l = some t → a ≤ t ∧ rest x l = x / 2 ^ (t - a) := by
  induction l with
  | nil => intro a t x e; simp only [tot, Option.some.injEq] at e; subst e; simp [rest]
  | cons n l ih =>
    intro a t x e
    simp only [tot] at e
    split at e
    · obtain ⟨h1, h2⟩ := ih (x := x / 2 ^ n.toNat) e
      refine ⟨by omega, ?_⟩
      rw [rest, h2, Nat.div_div_eq_div_mul, ← Nat.pow_add]
      congr 2
      omega
    · cases e

/-- what is packed is split -/
theorem pk_split {l : List Fld} : ∀ {y a x t : Nat}, pk y a l = some (x, t) → tot a (l.map Fld.n) = some t ∧ a ≤ t ∧ ∃ z, x = y + z * 2 ^ a ∧ z < 2 ^ (t - a) ∧ sp z (l.map Fld.n) = l.map Fld.v := by
  induction l with
  | nil =>
    intro y a x t e
    simp only [pk, Option.some.injEq, Prod.mk.injEq] at e
    obtain ⟨rfl, rfl⟩ := e
    exact ⟨rfl, Nat.le_refl _, 0, by simp, Nat.two_pow_pos _, rfl⟩
  | cons f l ih =>
    intro y a x t e
    simp only [pk] at e
    split at e
    · rename_i hc
      obtain ⟨h1, h2, z, rfl, hz, hs⟩ := ih e
      have hp : 0 < 2 ^ f.n.toNat := Nat.two_pow_pos _
      refine ⟨?_, by omega, f.v + z * 2 ^ f.n.toNat, ?_, ?_, ?_⟩
      · simp only [List.map_cons, tot]
        rw [if_pos hc.1]
        exact h1
      · rw [Nat.add_mul, Nat.mul_assoc, ← Nat.pow_add, Nat.add_comm f.n.toNat a, Nat.add_assoc]
      · have e2 : t - a = (t - (a + f.n.toNat)) + f.n.toNat := by omega
        rw [e2, Nat.pow_add]
        calc f.v + z * 2 ^ f.n.toNat < 2 ^ f.n.toNat + z * 2 ^ f.n.toNat := Nat.add_lt_add_right hc.2 _
          _ = (z + 1) * 2 ^ f.n.toNat := by rw [Nat.add_mul, Nat.one_mul, Nat.add_comm]
          _ ≤ 2 ^ (t - (a + f.n.toNat)) * 2 ^ f.n.toNat := Nat.mul_le_mul_right _ hz
      · simp only [List.map_cons, sp]
        rw [Nat.add_mul_mod_self_right, Nat.mod_eq_of_lt hc.2, Nat.add_mul_div_right _ _ hp, Nat.div_eq_of_lt hc.2, Nat.zero_add, hs]
    · cases e

/-- fields of widths and values -/
def flds : List Int → List Nat → List Fld
  | n :: l, v :: m => ⟨n, v⟩ :: flds l m
  | _, _ => []

theorem flds_len : ∀ (l : List Int) (m : List Nat), l.length = m.length → (flds l m).length = l.length
  | [], [], _ => rfl
  | n :: l, v :: m, h => by simp only [flds, List.length_cons] at *; rw [flds_len l m (by omega)]
theorem flds_get : ∀ (l : List Int) (m : List Nat) (i : Nat) (h : i < (flds l m).length) (h1 : i < l.length) (h2 : i < m.length), (flds l m)[i] = ⟨l[i], m[i]⟩
  | n :: l, v :: m, 0, _, _, _ => rfl
  | n :: l, v :: m, i + 1, h, h1, h2 => by
    simp only [flds, List.getElem_cons_succ]
    exact flds_get l m i (by simpa [flds] using h) (by simpa using h1) (by simpa using h2)

/-- what is split is packed -/
theorem split_pk {l : List Int} : ∀ {y a z t : Nat}, tot a l = some t → z < 2 ^ (t - a) → pk y a (flds l (sp z l)) = some (y + z * 2 ^ a, t) := by
  induction l with
  | nil =>
    intro y a z t e h
    simp only [tot, Option.some.injEq] at e
    subst e
    simp at h
    subst h
    simp [flds, pk]
  | cons n l ih =>
    intro y a z t e h
    simp only [tot] at e
    split at e
    · rename_i hc
      have hp : 0 < 2 ^ n.toNat := Nat.two_pow_pos _
      have h1 := (rest_tot (x := 0) e).1
      simp only [sp, flds, pk]
      rw [if_pos ⟨hc, Nat.mod_lt _ hp⟩, ih e]
      · congr 2
        rw [Nat.add_assoc, Nat.pow_add, Nat.mul_comm (2 ^ a), ← Nat.mul_assoc, ← Nat.add_mul]
        congr 2
        rw [Nat.mul_comm]
        exact Nat.mod_add_div z _
      · rw [Nat.div_lt_iff_lt_mul hp, ← Nat.pow_add]
        have e2 : t - (a + n.toNat) + n.toNat = t - a := by omega
        rw [e2]
        exact h
    · cases e
theorem pk_lt {l : List Fld} {x t : Nat} (h : pk 0 0 l = some (x, t)) : x < 2 ^ t ∧ t ≤ 64 := by
  obtain ⟨h1, _, z, rfl, hz, _⟩ := pk_split h
  have := (tot_le (by omega) h1).2
  simp at hz ⊢
  exact ⟨hz, this⟩
theorem pk_step {l : List Fld} {m : Nat} (h : m < l.length) {x t : Nat} (e : pk 0 0 (l.take m) = some (x, t)) : pk 0 0 (l.take (m + 1)) = if (1 ≤ l[m].n ∧ l[m].n ≤ 64 - (t : Int)) ∧ l[m].v < 2 ^ l[m].n.toNat then some (x + l[m].v * 2 ^ t, t + l[m].n.toNat) else none := by
  rw [List.take_succ_eq_append_getElem h, pk_append, e]
  rfl
theorem pk_none {l : List Fld} {m : Nat} (e : pk 0 0 (l.take m) = none) : pk 0 0 l = none := by
  rw [← List.take_append_drop m l, pk_append, e]
  rfl
theorem tot_step {l : List Int} {m : Nat} (h : m < l.length) {t : Nat} (e : tot 0 (l.take m) = some t) : tot 0 (l.take (m + 1)) = if 1 ≤ l[m] ∧ l[m] ≤ 64 - (t : Int) then some (t + l[m].toNat) else none := by
  rw [List.take_succ_eq_append_getElem h, tot_append, e]
  rfl
theorem tot_none {l : List Int} {m : Nat} (e : tot 0 (l.take m) = none) : tot 0 l = none := by
  rw [← List.take_append_drop m l, tot_append, e]
  rfl
theorem tot_take {l : List Int} {t : Nat} (e : tot 0 l = some t) (m : Nat) : ∃ s, tot 0 (l.take m) = some s ∧ s ≤ t := by
  rw [← List.take_append_drop m l, tot_append] at e
  cases h : tot 0 (l.take m) with
  | none => rw [h] at e; cases e
  | some s => rw [h] at e; exact ⟨s, rfl, (rest_tot (x := 0) e).1⟩
theorem sp_step {l : List Int} {m : Nat} (h : m < l.length) (x : Nat) : sp x (l.take (m + 1)) = sp x (l.take m) ++ [rest x (l.take m) % 2 ^ l[m].toNat] := by
  rw [List.take_succ_eq_append_getElem h, sp_append]
  rfl
theorem rest_step {l : List Int} {m : Nat} (h : m < l.length) (x : Nat) : rest x (l.take (m + 1)) = rest x (l.take m) / 2 ^ l[m].toNat := by
  rw [List.take_succ_eq_append_getElem h, rest_append]
  rfl

/-- the values of a word, if it may be split -/
def split (x : Nat) (l : List Int) : Option (List Nat) :=
  match tot 0 l with
  | none => none
  | some t => if x / 2 ^ t = 0 then some (sp x l) else none
end Pack
end Go.Proofs.YtblibjjnbbleeaaDoor
