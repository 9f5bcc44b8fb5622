/- Words' bytes, and the program's sums of them. -/
import Derived.Test.YtobffegkdoefnaaDoorCrcLives
import Derived.Test.YtobffegkdoefnaaDoorCrcRef
namespace Go.Proofs.YtobffegkdoefnaaDoor
open Go.RowKit Go.MapKept
namespace Crc

/-- a word's bytes, the lowest first -/
def wb (x : Nat) : List Nat := (List.range 8).map fun k => x / 256 ^ k % 256

theorem wb_len (x : Nat) : (wb x).length = 8 := by simp [wb]
theorem wb_get {x k : Nat} (h : k < (wb x).length) : (wb x)[k] = x / 256 ^ k % 256 := by simp [wb]
theorem wb_byt (x : Nat) : Byt (wb x) := by
  intro b hb
  obtain ⟨k, _, rfl⟩ := List.mem_map.1 hb
  exact Nat.mod_lt _ (by omega)

/-- these words lie at A -/
structure Wds (w : World) (A : Option Addr) (l : List Nat) : Prop where
  u64 : ∀ x ∈ l, x < 18446744073709551616
  len : l.length ≤ 9223372036854775807
  at' : ∀ j (h : j < l.length), ∃ b o, A = some ⟨b, o, none⟩ ∧ b < w.heap.size ∧ w.cell? ⟨b, o + j, none⟩ = some (.int .u64 (l[j] : Int))

theorem Wds.keep {w w' : World} {A : Option Addr} {l : List Nat} (h : Wds w A l) (hb : Below w.heap.size w w') : Wds w' A l :=
  ⟨h.u64, h.len, fun j hj => by
    obtain ⟨b, o, e, hlt, hc⟩ := h.at' j hj
    exact ⟨b, o, e, Nat.lt_of_lt_of_le hlt hb.size, (hb.cell (p := ⟨b, o + j, none⟩) hlt).trans hc⟩⟩

def wflat (l : List Nat) : List Nat := l.flatMap wb
theorem wflat_take {l : List Nat} {m : Nat} (h : m < l.length) : wflat (l.take (m + 1)) = wflat (l.take m) ++ wb l[m] := by
  unfold wflat
  rw [List.take_succ_eq_append_getElem h, List.flatMap_append]
  simp
theorem wflat_byt (l : List Nat) : Byt (wflat l) := by
  intro b hb
  obtain ⟨q, _, hb⟩ := List.mem_flatMap.1 hb
  exact wb_byt q b hb

section
variable {w : World}
end
end Crc
end Go.Proofs.YtobffegkdoefnaaDoor
