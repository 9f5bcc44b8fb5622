/- The document's Decode. -/
import Derived.Test.YtobffegkdoefnaaDoorEntRef
namespace Go.Proofs.YtobffegkdoefnaaDoor
open Go.RowKit Go.MapKept
namespace Ent

/-- is there one? -/
def iv : Option (List Nat × Nat) → Bool
  | some _ => true
  | none => false

theorem tx_extract (s : ByteArray) (a b : Nat) : Crc.tx (s.extract a b) = ((Crc.tx s).drop a).take (b - a) := by
  unfold Crc.tx
  rw [ByteArray.data_extract, Array.toList_extract, List.extract_eq_take_drop, List.map_take, List.map_drop]
theorem tx_at {s : ByteArray} {i : Nat} (h : i < s.size) : at' (Crc.tx s) i = (s[i]'h).toNat := Crc.tx_get h

end Ent
end Go.Proofs.YtobffegkdoefnaaDoor
