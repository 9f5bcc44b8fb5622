/- Names as they lie in memory. -/
import Derived.Test.YtobffegkdoefnaaDoorPatMath
import Derived.Deep.OwnRows
import Derived.Laws.OwnMore
import Derived.OneCell
import Derived.ArgAppend
import Derived.Laws.MakeOwn
import Derived.Laws.Cover1
import Derived.Deep.QuietTactic
import Derived.BigQuiet
namespace Go.Proofs.YtobffegkdoefnaaDoor
open Go.RowKit Go.MapKept
namespace Pat

/-- names as they lie -/
structure Txs (w : World) (A : Option Addr) (l : List ByteArray) : Prop where
  size : ∀ s ∈ l, s.size ≤ 9223372036854775807
  len : l.length ≤ 9223372036854775807
  at' : ∀ j (h : j < l.length), ∃ b o, A = some ⟨b, o, none⟩ ∧ b < w.heap.size ∧ w.cell? ⟨b, o + j, none⟩ = some (.string l[j])
theorem Txs.keepN {w w' : World} {N : Nat} {A : Option Addr} {l : List ByteArray} (h : Txs w A l) (hb : Below N w w') (hN : ∀ a, A = some a → a.block < N) : Txs w' A l :=
  ⟨h.size, h.len, fun j hj => by
    obtain ⟨b, o, e, hlt, hc⟩ := h.at' j hj
    exact ⟨b, o, e, Nat.lt_of_lt_of_le hlt hb.size, (hb.cell (p := ⟨b, o + j, none⟩) (show b < N from hN _ e)).trans hc⟩⟩
theorem Txs.keep {w w' : World} {A : Option Addr} {l : List ByteArray} (h : Txs w A l) (hb : Below w.heap.size w w') : Txs w' A l :=
  ⟨h.size, h.len, fun j hj => by
    obtain ⟨b, o, e, hlt, hc⟩ := h.at' j hj
    exact ⟨b, o, e, Nat.lt_of_lt_of_le hlt hb.size, (hb.cell (p := ⟨b, o + j, none⟩) hlt).trans hc⟩⟩
theorem Txs.drew {w : World} {A : Option Addr} {l : List ByteArray} (h : Txs w A l) : Txs w.drew A l := h.keep (Below.refl _ _).drew
theorem Txs.drewN {w : World} {A : Option Addr} {l : List ByteArray} (h : Txs w A l) (k : Nat) : Txs (w.drewN k) A l := ⟨h.size, h.len, h.at'⟩
theorem Txs.alloc {w : World} {A : Option Addr} {l : List ByteArray} (h : Txs w A l) (o : Obj) : Txs (w.alloc o) A l := h.keep ((Below.refl _ _).alloc (Nat.le_refl _) o)
theorem txs_nil (w : World) (A : Option Addr) : Txs w A [] := ⟨fun _ h => by simp at h, by simp, fun j h => by simp at h⟩
/-- the first n of them -/
theorem Txs.take {w : World} {A : Option Addr} {l : List ByteArray} (h : Txs w A l) (n : Nat) : Txs w A (l.take n) :=
  ⟨fun s hs => h.size s (List.mem_of_mem_take hs), by have := h.len; rw [List.length_take]; omega, fun j hj => by
    have hj' : j < l.length := by rw [List.length_take] at hj; omega
    obtain ⟨b, o, e, hlt, hc⟩ := h.at' j hj'
    exact ⟨b, o, e, hlt, by rw [hc, List.getElem_take]⟩⟩

abbrev strs (l : List ByteArray) : List Value := l.map .string
theorem strs_one (l : List ByteArray) : ∀ u ∈ strs l, u.oneCell' = true := by
  intro u hu
  obtain ⟨x, _, rfl⟩ := List.mem_map.1 hu
  rfl
theorem txs_news {W : World} {ad : Addr} {l : List ByteArray} (h : Txs W (some ad) l) : ∀ j u, (strs l)[j]? = some u → W.cell? (ad.add j) = some u := by
  intro j u hu
  have hj : j < l.length := by
    have := (List.getElem?_eq_some_iff.1 hu).1
    simpa [strs] using this
  obtain ⟨b, o, e, _, hc⟩ := h.at' j hj
  injection e with e
  subst e
  rw [Go.WideShapes.add_plain, hc, ← hu]
  simp [strs, List.getElem?_eq_getElem hj]
/-- a row of names of the call's own -/
theorem own_txs {W : World} {B n c : Nat} {t : TypeId} {G : Option Addr} {l : List ByteArray} (h : W.ownsRow B t 1 (.slice G n c) n (strs l)) (hs : ∀ s ∈ l, s.size ≤ 9223372036854775807) (hl : n ≤ 9223372036854775807) : Txs W G l ∧ l.length = n := by
  have hln : l.length = n := by
    have := h.1
    simp only [strs, List.length_map] at this
    omega
  refine ⟨⟨hs, by omega, fun j hj => ?_⟩, hln⟩
  rcases h.2 with ⟨e, h0⟩ | ⟨g, cap, cur, e, hB, hh, _, _, _, ht⟩
  · omega
  · injection e with e
    subst e
    refine ⟨g, 0, rfl, (Array.getElem?_eq_some_iff.1 hh).1, ?_⟩
    have := congrArg (·[j]?) ht
    rw [List.getElem?_take, if_pos (by omega)] at this
    unfold World.cell?
    rw [hh, Nat.zero_add]
    simp only
    rw [← Array.getElem?_toList]
    refine this.trans ?_
    simp [strs, List.getElem?_eq_getElem hj]
theorem own_keepN {w w' : World} {B N n : Nat} {t : TypeId} {v : Value} {xs : List Value} (h : w.ownsRow B t 1 v n xs) (hb : Below N w w') (hN : ∀ g, v.ownBlock = some g → g < N) : w'.ownsRow B t 1 v n xs := by
  rcases h with ⟨h1, h2⟩
  refine ⟨h1, ?_⟩
  rcases h2 with h0 | ⟨g, cap, cur, e, hB, hh, hr⟩
  · exact .inl h0
  · exact .inr ⟨g, cap, cur, e, hB, (hb.block g (hN g (by rw [e]; rfl))).trans hh, hr⟩
theorem own_keep {w w' : World} {B n : Nat} {t : TypeId} {v : Value} {xs : List Value} (h : w.ownsRow B t 1 v n xs) (hb : Below w.heap.size w w') : w'.ownsRow B t 1 v n xs :=
  own_keepN h hb (fun g hg => (World.ownsRow.lt h g hg).2)
theorem row_slice {B n : Nat} {W : World} {e : TypeId} {v : Value} {xs : List Value} (h : W.ownsRow B e 1 v n xs) : ∃ G c, v = .slice G n c := by
  rcases h.2 with ⟨e, h0⟩ | ⟨g, cap, cur, e, _⟩
  · exact ⟨none, 0, by rw [e, h0]⟩
  · exact ⟨_, _, e⟩
theorem row_base_lt {w : World} {B : Nat} {e : TypeId} {n : Nat} {v : Value} {xs : List Value} (h : w.ownsRow B e 1 v n xs) {g : Nat} (hg : v.ownBlock = some g) : B ≤ g := (World.ownsRow.lt h g hg).1
theorem str_info : (Tryd.prog.info? 9).map (fun i => (i.zero, i.size, i.bytes)) = some (some (.string ByteArray.empty), 1, 16) := by kernel_rfl
theorem info_parts {t : TypeId} {v : Value} {n m : Nat} (h : (Tryd.prog.info? t).map (fun i => (i.zero, i.size, i.bytes)) = some (some v, n, m)) : ∃ i, Tryd.prog.info? t = some i ∧ i.zero = some v ∧ i.size = n ∧ i.bytes = m := by
  cases hi : Tryd.prog.info? t with
  | none => rw [hi] at h; cases h
  | some i =>
    rw [hi] at h
    simp only [Option.map_some, Option.some.injEq, Prod.mk.injEq] at h
    exact ⟨i, rfl, h.1, h.2.1, h.2.2⟩
end Pat
end Go.Proofs.YtobffegkdoefnaaDoor
