/- Bytes as a text; the document's bytes of words; CrcWords. -/
import Derived.Test.YtobffegkdoefnaaDoorCrcWords
import Derived.OwnWalk
namespace Go.Proofs.YtobffegkdoefnaaDoor
open Go.RowKit Go.MapKept
namespace Crc

theorem ofNat_toNat {b : Nat} (h : b < 256) : (UInt8.ofNat b).toNat = b := by
  rw [UInt8.toNat_ofNat']
  omega

/-- the text of bytes -/
def str (l : List Nat) : ByteArray := ⟨(l.map UInt8.ofNat).toArray⟩
theorem str_size (l : List Nat) : (str l).size = l.length := by
  show ((l.map UInt8.ofNat).toArray).size = _
  rw [List.size_toArray, List.length_map]
theorem tx_str {l : List Nat} (h : Byt l) : tx (str l) = l := by
  unfold tx str
  rw [List.map_map]
  refine (List.map_congr_left (fun b hb => ?_)).trans (List.map_id l)
  exact ofNat_toNat (h b hb)

theorem conv_str {W : World} {A : Option Addr} {l : List Nat} (c : Nat) (h : Bts W A l) : (convert 43 9 (.slice A l.length c)).run Tryd.prog W = .ok (.string (str l)) W := by
  cases A with
  | none =>
    have hl : l = [] := by
      cases l with
      | nil => rfl
      | cons b l =>
        obtain ⟨_, _, e, _⟩ := h.at' 0 (by simp)
        cases e
    subst hl
    exact run_convert_bytes_nil W _ _ Tryd.underlying43 Tryd.underlying5 0 c _ Tryd.underlying9
  | some a =>
    have hr := run_convert_bytes_back (P := Tryd.prog) W 43 9 5 a c (l.map UInt8.ofNat) Tryd.underlying43 Tryd.underlying5 Tryd.underlying9 (fun j hj => by
      rw [List.length_map] at hj
      obtain ⟨b, o, e, _, hc⟩ := h.at' j hj
      injection e with e
      subst e
      rw [Go.WideShapes.add_plain, hc, List.getElem_map, ofNat_toNat (h.byt _ (List.getElem_mem hj))])
    rw [List.length_map] at hr
    exact hr

/-- bytes as cells -/
def u8s (l : List Nat) : List Value := l.map fun b : Nat => Value.int .u8 (b : Int)
theorem u8s_one (l : List Nat) : ∀ u ∈ u8s l, u.oneCell' = true := by
  intro u hu
  obtain ⟨x, _, rfl⟩ := List.mem_map.1 hu
  rfl

theorem own_bts {W : World} {B n c : Nat} {G : Option Addr} {bs : List Nat} (h : W.ownsRow B 5 1 (.slice G n c) n (u8s bs)) (hb : Byt bs) (hm : n ≤ 9223372036854775807) : Bts W G bs := by
  have hl : bs.length = n := by
    have := h.1
    simpa [u8s] using this
  refine ⟨hb, by omega, fun j hj => ?_⟩
  rcases h.2 with ⟨e, h0⟩ | ⟨g, cap, cur, e, _, hh, _, _, _, ht⟩
  · omega
  · injection e with e
    subst e
    refine ⟨g, 0, rfl, (Array.getElem?_eq_some_iff.1 hh).1, ?_⟩
    have := congrArg (·[j]?) ht
    simp only [Nat.mul_one, u8s] at this
    rw [List.getElem?_take, if_pos (by omega), List.getElem?_map, List.getElem?_eq_getElem hj] at this
    unfold World.cell?
    rw [hh, Nat.zero_add]
    simp only
    rw [← Array.getElem?_toList]
    simpa using this

theorem row_slice {B n : Nat} {W : World} {e : TypeId} {v : Value} {xs : List Value} (h : W.ownsRow B e 1 v n xs) : ∃ G c, v = .slice G n c := by
  rcases h.2 with ⟨e, h0⟩ | ⟨g, cap, cur, e, _⟩
  · exact ⟨none, 0, by rw [e, h0]⟩
  · exact ⟨_, _, e⟩
theorem row_base_lt {w : World} {B : Nat} {e : TypeId} {n : Nat} {v : Value} {xs : List Value} (h : w.ownsRow B e 1 v n xs) {g : Nat} (hg : v.ownBlock = some g) : B ≤ g := by
  rcases h.2 with ⟨e, _⟩ | ⟨g', cap, cur, e, hb, hh, _⟩
  · rw [e] at hg; simp [Value.ownBlock] at hg
  · rw [e] at hg
    simp only [Value.ownBlock, Option.some.injEq] at hg
    omega

theorem u8_info : (Tryd.prog.info? 5).map (fun i => (i.zero, i.size, i.bytes)) = some (some (.int .u8 0), 1, 1) := by kernel_rfl

/-- bytes of the call's own -/
def Got (w wr : World) (G : Option Addr) (n gc : Nat) (bs : List Nat) : Prop := wr.ownsRow w.heap.size 5 1 (.slice G n gc) n (u8s bs) ∧ Below w.heap.size w wr

theorem wflat_len (l : List Nat) : (wflat l).length = 8 * l.length := by
  unfold wflat
  induction l with
  | nil => rfl
  | cons x l ih => rw [List.flatMap_cons, List.length_append, ih, wb_len, List.length_cons]; omega

theorem div_pow (x j : Nat) : x / 256 ^ (j + 1) = x / 256 ^ j / 256 := by rw [Nat.pow_succ, Nat.div_div_eq_div_mul]

section
variable {w : World}
end
end Crc
end Go.Proofs.YtobffegkdoefnaaDoor
