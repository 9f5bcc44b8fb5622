/- Directories there and back, as lists. -/
import Derived.Test.YtdgbpnchkgdmmaaEntAll
namespace Go.Proofs.Ytdgbpnchkgdmmaa
open Go.RowKit Go.MapKept
namespace Ent

theorem dec_byt {c l : List Nat} {i : Nat} (h : dec c = some (l, i)) (hc : Crc.Byt c) : Crc.Byt l := by
  have h1 := (dec_some h).2
  have h2 : name c = l := by rw [h1, name_enc]
  rw [← h2]
  exact fun x hx => hc x (List.mem_of_mem_drop (List.mem_of_mem_take hx))
theorem chk_byt {b : List Nat} (h : Crc.Byt b) (i : Nat) : Crc.Byt (chk b i) := fun x hx => h x (List.mem_of_mem_drop (List.mem_of_mem_take hx))

theorem ens_get {ds : List (List Nat × Nat)} {i : Nat} (h : i < ds.length) : (ens ds)[i]'(by rw [ens_len]; exact h) = (Crc.str ds[i].1, (ds[i].2 : Int)) := by
  simp only [ens, List.getElem_map]
theorem Decs.eb {b : List Nat} {ds : List (List Nat × Nat)} (h : Decs b ds) (hb : Crc.Byt b) {i : Nat} (hi : i < ds.length) : Ent.eb (Crc.str ds[i].1, (ds[i].2 : Int)) = chk b i := by
  have hd := h i hi
  have h1 := dec_byt (l := ds[i].1) (i := ds[i].2) hd (chk_byt hb i)
  unfold Ent.eb
  rw [Crc.tx_str h1]
  exact (dec_some (l := ds[i].1) (i := ds[i].2) hd).2.symm
theorem Decs.may {b : List Nat} {ds : List (List Nat × Nat)} (h : Decs b ds) (hb : Crc.Byt b) : ∀ e ∈ ens ds, mayE e = true := by
  intro e he
  obtain ⟨p, hp, rfl⟩ := List.mem_map.1 he
  obtain ⟨i, hi, rfl⟩ := List.getElem_of_mem hp
  have hd := h i hi
  have h1 := dec_byt (l := ds[i].1) (i := ds[i].2) hd (chk_byt hb i)
  unfold mayE
  rw [Crc.tx_str h1]
  exact (dec_some (l := ds[i].1) (i := ds[i].2) hd).1
theorem Decs.take {b : List Nat} {ds : List (List Nat × Nat)} (h : Decs b ds) (hb : Crc.Byt b) : ∀ m, m ≤ ds.length → ebs ((ens ds).take m) = b.take (64 * m) := by
  intro m
  induction m with
  | zero => intro _; simp [ebs]
  | succ m ih =>
    intro hm
    have hl : m < (ens ds).length := by rw [ens_len]; omega
    rw [ebs_take hl, ih (by omega), ens_get (by omega), h.eb hb (by omega)]
    unfold chk
    rw [show 64 * (m + 1) = 64 * m + 64 by omega, List.take_add]
theorem All.bytes {b : List Nat} {ds : List (List Nat × Nat)} (h : All b ds) (hb : Crc.Byt b) : ebs (ens ds) = b := by
  have h1 := h.2.1.take hb ds.length (Nat.le_refl _)
  rw [List.take_of_length_le (by rw [ens_len]; exact Nat.le_refl _), List.take_of_length_le (by rw [h.1]; exact Nat.le_refl _)] at h1
  exact h1

/-- entries as pairs of lists and numbers -/
def back (l : List En) : List (List Nat × Nat) := l.map fun e => (Crc.tx e.1, e.2.toNat)
theorem back_len (l : List En) : (back l).length = l.length := by
  unfold back
  rw [List.length_map]
theorem ens_back {l : List En} (h : ∀ e ∈ l, mayE e = true) : ens (back l) = l := by
  unfold ens back
  rw [List.map_map]
  conv => rhs; rw [← List.map_id l]
  refine List.map_congr_left (fun e he => ?_)
  obtain ⟨k, hk, _⟩ := may_nat (h e he)
  obtain ⟨s, i⟩ := e
  simp only at hk
  subst hk
  simp only [Function.comp, str_tx, Int.toNat_natCast, id]
theorem eb_chk {l : List En} (h : ∀ e ∈ l, mayE e = true) {i : Nat} (hi : i < l.length) : chk (ebs l) i = eb l[i] := by
  have e1 : ebs l = ebs (l.take i) ++ (eb l[i] ++ ebs (l.drop (i + 1))) := by
    conv => lhs; rw [← List.take_append_drop i l, List.drop_eq_getElem_cons hi]
    unfold ebs
    rw [List.flatMap_append, List.flatMap_cons]
  have h1 : (ebs (l.take i)).length = 64 * i := by
    rw [ebs_len (fun e he => h e (List.mem_of_mem_take he)), List.length_take]
    congr 1
    omega
  have h2 := eb_len (h l[i] (List.getElem_mem hi))
  unfold chk
  rw [e1, ← h1, List.drop_left, ← h2, List.take_left]
theorem joins_all {l : List En} (h : ∀ e ∈ l, mayE e = true) (hn : (nms l).Nodup) : All (ebs l) (back l) := by
  refine ⟨by rw [ebs_len h, back_len], fun i hi => ?_, by rw [ens_back h]; exact hn⟩
  rw [back_len] at hi
  rw [eb_chk h hi]
  have hm := h l[i] (List.getElem_mem hi)
  obtain ⟨k, hk, _⟩ := may_nat hm
  have e : (back l)[i] = (Crc.tx l[i].1, l[i].2.toNat) := by simp only [back, List.getElem_map]
  rw [e]
  unfold eb
  refine dec_enc ?_
  unfold mayE at hm
  rw [hk] at hm ⊢
  simpa using hm

/-- what may not be joined is not -/
theorem join_none (w : World) (A : Option Addr) (c : Nat) (l : List En) (h : Es w A l) (h1000 : l.length ≤ 1000) (hx : twice (nms l) = true ∨ ∃ e ∈ l, mayE e = false) :
    Calls Try.prog 20 #[.slice A l.length c] w fun r w' => r = .returned (.tuple #[.slice none 0 0, .int .i64 1]) ∧ Below w.heap.size w w' := by
  cases ht : twice (nms l) with
  | true => exact join_twice w A c l.length l h rfl ht
  | false =>
    have hb : ∃ e ∈ l, mayE e = false := by
      rcases hx with h1 | h1
      · rw [ht] at h1; cases h1
      · exact h1
    exact (join_core w A c l h h1000 ht).mono fun _ _ hq => hq.2 hb
theorem join_some (w : World) (A : Option Addr) (c : Nat) (l : List En) (h : Es w A l) (h1000 : l.length ≤ 1000) (ht : (nms l).Nodup) (hm : ∀ e ∈ l, mayE e = true) :
    Calls Try.prog 20 #[.slice A l.length c] w (JoinsTo w l) := (join_core w A c l h h1000 (twice_no ht)).mono fun _ _ hq => hq.1 hm
end Ent
end Go.Proofs.Ytdgbpnchkgdmmaa
