/- The document's Encode. -/
import Derived.Test.YtobffegkdoefnaaDoorEntDecode
namespace Go.Proofs.YtobffegkdoefnaaDoor
open Go.RowKit Go.MapKept
namespace Ent

theorem tx_append (S T : ByteArray) : Crc.tx (S ++ T) = Crc.tx S ++ Crc.tx T := by
  unfold Crc.tx
  rw [ByteArray.data_append, Array.toList_append, List.map_append]
theorem tx_inj {S T : ByteArray} (h : Crc.tx S = Crc.tx T) : S = T := by rw [← str_tx S, ← str_tx T, h]

theorem bts_one (w : World) (x : Nat) (hx : x < 256) : Crc.Bts (w.alloc (.cells #[.int .u8 (x : Int)] 5)) (some ⟨w.heap.size, 0, none⟩) [x] :=
  ⟨fun y hy => by
    obtain rfl : y = x := by simpa using hy
    exact hx, by simp, fun j hj => ⟨w.heap.size, 0, rfl, by simp, by
    have : j < 1 := hj
    match j, this with
    | 0, _ => exact Crc.alloc_cell _ _ _ _⟩⟩
theorem bts_four (w : World) (x y z u : Nat) (hx : x < 256) (hy : y < 256) (hz : z < 256) (hu : u < 256) : Crc.Bts (w.alloc (.cells #[.int .u8 (x : Int), .int .u8 (y : Int), .int .u8 (z : Int), .int .u8 (u : Int)] 5)) (some ⟨w.heap.size, 0, none⟩) [x, y, z, u] :=
  ⟨fun q hq => by
    simp only [List.mem_cons, List.not_mem_nil, or_false] at hq
    omega, by simp, fun j hj => ⟨w.heap.size, 0, rfl, by simp, by
    have : j < 4 := hj
    match j, this with
    | 0, _ => exact Crc.alloc_cell _ _ _ _
    | 1, _ => exact Crc.alloc_cell _ _ _ _
    | 2, _ => exact Crc.alloc_cell _ _ _ _
    | 3, _ => exact Crc.alloc_cell _ _ _ _⟩⟩
theorem conv_one (w : World) (x : Nat) (hx : x < 256) : (convert 43 9 (.slice (some ⟨w.heap.size, 0, none⟩) 1 1)).run Tryd.prog (w.alloc (.cells #[.int .u8 (x : Int)] 5)) = .ok (.string (Crc.str [x])) (w.alloc (.cells #[.int .u8 (x : Int)] 5)) := Crc.conv_str 1 (bts_one w x hx)
theorem conv_four (w : World) (x y z u : Nat) (hx : x < 256) (hy : y < 256) (hz : z < 256) (hu : u < 256) : (convert 43 9 (.slice (some ⟨w.heap.size, 0, none⟩) 4 4)).run Tryd.prog (w.alloc (.cells #[.int .u8 (x : Int), .int .u8 (y : Int), .int .u8 (z : Int), .int .u8 (u : Int)] 5)) = .ok (.string (Crc.str [x, y, z, u])) (w.alloc (.cells #[.int .u8 (x : Int), .int .u8 (y : Int), .int .u8 (z : Int), .int .u8 (u : Int)] 5)) := Crc.conv_str 4 (bts_four w x y z u hx hy hz hu)

theorem byt_zero : Crc.Byt [0] := by
  unfold Crc.Byt
  decide

end Ent
end Go.Proofs.YtobffegkdoefnaaDoor
