/- A text cut at each 47, names put together to a path: of no program. -/
import Derived.Test.YtobffegkdoefnaaDoorPatMath
import Derived.Lib.SplitLaws
import Derived.Lib.IndexBytes
import Derived.Lib.Join
namespace Go.Proofs.YtobffegkdoefnaaDoor
open Go.RowKit Go.MapKept
namespace Pat

/-- a piece's bytes ahead of the first one's -/
def glue (x : List UInt8) : List (List UInt8) → List (List UInt8)
  | [] => [x]
  | p :: ps => (x ++ p) :: ps
/-- cut at each 47 -/
def cut : List UInt8 → List (List UInt8)
  | [] => [[]]
  | b :: l => if b = 47 then [] :: cut l else glue [b] (cut l)
theorem glue_glue (x y : List UInt8) (c : List (List UInt8)) : glue x (glue y c) = glue (x ++ y) c := by
  cases c <;> simp [glue]
theorem glue_none {c : List (List UInt8)} (h : c ≠ []) : glue [] c = c := by
  cases c with
  | nil => exact absurd rfl h
  | cons => rfl
theorem glue_len (x : List UInt8) {c : List (List UInt8)} (h : c ≠ []) : (glue x c).length = c.length := by
  cases c with
  | nil => exact absurd rfl h
  | cons => rfl
theorem cut_ne : ∀ l, cut l ≠ []
  | [] => by simp [cut]
  | b :: l => by
    rw [cut]
    split
    · simp
    · cases cut l <;> simp [glue]
theorem cut_len : ∀ l, (cut l).length ≤ l.length + 1
  | [] => by simp [cut]
  | b :: l => by
    have := cut_len l
    rw [cut]
    split
    · simp; omega
    · rw [glue_len _ (cut_ne l)]; simp; omega

/-- where the first 47 stands -/
theorem cut_at : ∀ l, (Lib.indexByte l 47 = -1 → cut l = [l]) ∧ ∀ i : Nat, Lib.indexByte l 47 = (i : Int) → cut l = l.take i :: cut (l.drop (i + 1))
  | [] => ⟨fun _ => rfl, fun i h => by
    rw [Lib.indexByte] at h
    omega⟩
  | b :: l => by
    obtain ⟨h1, h2⟩ := cut_at l
    have hge := Lib.indexByte_ge l 47
    rw [cut, Lib.indexByte]
    by_cases hb : b = 47
    · subst hb
      rw [if_pos rfl, if_pos (by simp)]
      refine ⟨fun h => by omega, fun i h => ?_⟩
      obtain rfl : i = 0 := by omega
      simp
    · rw [if_neg hb, if_neg (by simpa using hb)]
      by_cases hm : Lib.indexByte l 47 = -1
      · rw [hm, if_pos (by simp), h1 hm]
        exact ⟨fun _ => rfl, fun i h => by omega⟩
      · rw [if_neg (by simpa using hm)]
        refine ⟨fun h => by omega, fun i h => ?_⟩
        obtain ⟨j, rfl⟩ : ∃ j, i = j + 1 := ⟨i - 1, by omega⟩
        rw [h2 j (by omega)]
        simp [glue]
theorem splitK_few : ∀ (k : Nat) (l : List UInt8), (cut l).length ≤ k + 1 → Lib.splitK [47] 0 k l = cut l
  | 0, l, h => by
    rw [Lib.splitK]
    rcases Int.lt_or_le (Lib.indexByte l 47) 0 with hi | hi
    · have := Lib.indexByte_ge l 47
      rw [(cut_at l).1 (by omega)]
    · obtain ⟨i, hi⟩ := Int.eq_ofNat_of_zero_le hi
      rw [(cut_at l).2 i hi] at h
      have := cut_ne (l.drop (i + 1))
      have := List.length_pos_iff.2 this
      rw [List.length_cons] at h
      omega
  | k + 1, l, h => by
    rw [Lib.splitK, Lib.index_one]
    rcases Int.lt_or_le (Lib.indexByte l 47) 0 with hi | hi
    · have := Lib.indexByte_ge l 47
      have hm : Lib.indexByte l 47 = -1 := by omega
      rw [hm, if_pos (by decide), (cut_at l).1 hm]
    · obtain ⟨i, hi⟩ := Int.eq_ofNat_of_zero_le hi
      have hc := (cut_at l).2 i hi
      rw [hc] at h
      rw [hi, if_neg (by simp), hc, splitK_few k _ (by simp at h ⊢; omega)]
      simp
theorem splitK_many : ∀ (k : Nat) (l : List UInt8), k + 1 ≤ (cut l).length → (Lib.splitK [47] 0 k l).length = k + 1
  | 0, l, _ => rfl
  | k + 1, l, h => by
    rw [Lib.splitK, Lib.index_one]
    rcases Int.lt_or_le (Lib.indexByte l 47) 0 with hi | hi
    · have := Lib.indexByte_ge l 47
      rw [(cut_at l).1 (by omega)] at h
      simp at h
    · obtain ⟨i, hi⟩ := Int.eq_ofNat_of_zero_le hi
      rw [(cut_at l).2 i hi] at h
      rw [hi, if_neg (by simp), List.length_cons]
      have := splitK_many k (l.drop (i + 1)) (by simp at h; omega)
      simpa using this

/-- the text of bytes -/
abbrev mk (l : List UInt8) : ByteArray := ⟨l.toArray⟩
theorem mk_data (s : ByteArray) : mk s.data.toList = s := rfl
theorem data_mk (l : List UInt8) : (mk l).data.toList = l := by simp
theorem map_mk (m : List ByteArray) : (m.map (·.data.toList)).map mk = m := by
  rw [List.map_map]
  have : (mk ∘ fun s : ByteArray => s.data.toList) = id := rfl
  rw [this, List.map_id]
theorem map_data (m : List (List UInt8)) : (m.map mk).map (·.data.toList) = m := by
  rw [List.map_map]
  have : ((fun s : ByteArray => s.data.toList) ∘ mk) = id := by
    funext l
    exact data_mk l
  rw [this, List.map_id]

/-- these are a path's names -/
def IsNames (l : List ByteArray) : Prop := l.length ≤ 64 ∧ ∀ n ∈ l, Ent.Right (Crc.tx n)
instance (l : List ByteArray) : Decidable (IsNames l) := by unfold IsNames; infer_instance
def isNames (l : List ByteArray) : Bool := decide (IsNames l)

/-- a path's names -/
def spl (s : ByteArray) : Option (List ByteArray) :=
  match s.data.toList with
  | [] => none
  | b :: r => if b = 47 then (if r = [] then some [] else if IsNames ((cut r).map mk) then some ((cut r).map mk) else none) else none
/-- names' path -/
def pth (l : List ByteArray) : ByteArray := if l = [] then mk [47] else mk (Lib.joinTail [47] (l.map (·.data.toList)))

theorem joinTail_cons (x : List UInt8) (r : List (List UInt8)) : Lib.joinTail [47] (x :: r) = 47 :: (x ++ Lib.joinTail [47] r) := by
  simp [Lib.joinTail]
theorem joinTail_snoc (r : List (List UInt8)) (x : List UInt8) : Lib.joinTail [47] (r ++ [x]) = Lib.joinTail [47] r ++ [47] ++ x := by
  simp [Lib.joinTail]
theorem tail_glue (x : List UInt8) {c : List (List UInt8)} (h : c ≠ []) : Lib.joinTail [47] (glue x c) = 47 :: (x ++ (Lib.joinTail [47] c).drop 1) := by
  cases c with
  | nil => exact absurd rfl h
  | cons p ps => rw [glue, joinTail_cons, joinTail_cons]; simp
theorem tail_cut : ∀ l, Lib.joinTail [47] (cut l) = 47 :: l
  | [] => by simp [cut, Lib.joinTail]
  | b :: l => by
    rw [cut]
    split
    · rename_i hb
      rw [joinTail_cons, tail_cut l, hb]
      rfl
    · rw [tail_glue _ (cut_ne l), tail_cut l]
      rfl
theorem cut_plain : ∀ (x l : List UInt8), (∀ b ∈ x, b ≠ 47) → cut (x ++ l) = glue x (cut l)
  | [], l, _ => (glue_none (cut_ne l)).symm
  | b :: x, l, h => by
    rw [List.cons_append, cut, if_neg (h b (by simp)), cut_plain x l (fun c hc => h c (by simp [hc])), glue_glue]
    rfl
theorem cut_tail : ∀ (r : List (List UInt8)) (x : List UInt8), (∀ b ∈ x, b ≠ 47) → (∀ y ∈ r, ∀ b ∈ y, b ≠ 47) → cut (x ++ Lib.joinTail [47] r) = x :: r
  | [], x, hx, _ => by
    have := cut_plain x [] hx
    rw [show Lib.joinTail [47] [] = [] from rfl, this]
    simp [cut, glue]
  | y :: r, x, hx, hr => by
    rw [cut_plain _ _ hx, joinTail_cons, cut, if_pos rfl, cut_tail r y (hr y (by simp)) (fun z hz => hr z (by simp [hz]))]
    simp [glue]

theorem right_plain {s : ByteArray} (h : Ent.Right (Crc.tx s)) : (∀ b ∈ s.data.toList, b ≠ 47) ∧ s.data.toList ≠ [] := by
  refine ⟨fun b hb e => ?_, fun e => ?_⟩
  · have : b.toNat ∈ Crc.tx s := List.mem_map_of_mem hb
    have := (h.2.2.2 _ this).2
    subst e
    exact this rfl
  · have := h.1.1
    unfold Crc.tx at this
    rw [e] at this
    simp at this
theorem spl_pth {l : List ByteArray} (h : IsNames l) : spl (pth l) = some l := by
  cases l with
  | nil => rfl
  | cons x r =>
    have hx := right_plain (h.2 x (by simp))
    have e : (pth (x :: r)).data.toList = 47 :: (x.data.toList ++ Lib.joinTail [47] (r.map (·.data.toList))) := by
      unfold pth
      rw [if_neg (by simp), data_mk, List.map_cons, joinTail_cons]
    have hc := cut_tail (r.map (·.data.toList)) x.data.toList hx.1 (fun y hy => by
      obtain ⟨z, hz, rfl⟩ := List.mem_map.1 hy
      exact (right_plain (h.2 z (by simp [hz]))).1)
    have hm : (cut (x.data.toList ++ Lib.joinTail [47] (r.map (·.data.toList)))).map mk = x :: r := by
      rw [hc]
      exact map_mk (x :: r)
    unfold spl
    rw [e]
    simp only [if_true]
    rw [if_neg (by simp [hx.2]), hm, if_pos h]
theorem pth_spl {s : ByteArray} {l : List ByteArray} (h : spl s = some l) : IsNames l ∧ pth l = s := by
  unfold spl at h
  split at h
  · cases h
  · rename_i b r e
    split at h
    · rename_i hb
      subst hb
      split at h
      · rename_i hr
        subst hr
        injection h with h
        subst h
        refine ⟨⟨by simp, fun n hn => by simp at hn⟩, ?_⟩
        rw [← mk_data s, e]
        rfl
      · split at h
        · rename_i hi
          injection h with h
          subst h
          refine ⟨hi, ?_⟩
          unfold pth
          rw [if_neg (by simp [cut_ne]), map_data, tail_cut, ← e, mk_data]
        · cases h
    · cases h
theorem pth_join (l : List ByteArray) : pth l = mk (47 :: Lib.join (l.map (·.data.toList)) [47]) := by
  cases l with
  | nil => rfl
  | cons x r =>
    unfold pth
    rw [if_neg (by simp), List.map_cons, joinTail_cons, Lib.join_cons]
end Pat
end Go.Proofs.YtobffegkdoefnaaDoor
