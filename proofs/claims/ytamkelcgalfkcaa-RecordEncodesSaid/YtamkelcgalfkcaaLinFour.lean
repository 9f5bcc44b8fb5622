/- Memory of four ints: in a block, of the call's own, beside a row of words; four fields, four widths. -/
import Derived.Test.YtamkelcgalfkcaaLinMem
namespace Go.Proofs.Ytamkelcgalfkcaa
open Go.RowKit Go.MapKept
namespace Lin

/-- four ints lie in block b -/
structure Box4 (w : World) (b : Nat) (n m s r : Int) : Prop where
  lt : b < w.heap.size
  c0 : w.cell? ⟨b, 0, none⟩ = some (.int .i64 n)
  c1 : w.cell? ⟨b, 1, none⟩ = some (.int .i64 m)
  c2 : w.cell? ⟨b, 2, none⟩ = some (.int .i64 s)
  c3 : w.cell? ⟨b, 3, none⟩ = some (.int .i64 r)
theorem Box4.keep {w w' : World} {b : Nat} {n m s r : Int} (h : Box4 w b n m s r) (hb : Below w.heap.size w w') : Box4 w' b n m s r :=
  ⟨Nat.lt_of_lt_of_le h.lt hb.size, (hb.cell (p := ⟨b, 0, none⟩) h.lt).trans h.c0, (hb.cell (p := ⟨b, 1, none⟩) h.lt).trans h.c1, (hb.cell (p := ⟨b, 2, none⟩) h.lt).trans h.c2, (hb.cell (p := ⟨b, 3, none⟩) h.lt).trans h.c3⟩
theorem Box4.drew {w : World} {b : Nat} {n m s r : Int} (h : Box4 w b n m s r) : Box4 w.drew b n m s r := ⟨h.lt, h.c0, h.c1, h.c2, h.c3⟩
theorem Box4.drewN {w : World} {b : Nat} {n m s r : Int} (h : Box4 w b n m s r) (k : Nat) : Box4 (w.drewN k) b n m s r := ⟨h.lt, h.c0, h.c1, h.c2, h.c3⟩
theorem boxed4 (w : World) (n m s r : Int) (t : TypeId) : Box4 (w.alloc (.cells #[.int .i64 n, .int .i64 m, .int .i64 s, .int .i64 r] t)) w.heap.size n m s r :=
  ⟨by simp, World.cell?_alloc_mark w _ t _ 0, World.cell?_alloc_mark w _ t _ 1, World.cell?_alloc_mark w _ t _ 2, World.cell?_alloc_mark w _ t _ 3⟩
theorem boxed4_at {w : World} {k : Nat} (hk : w.heap.size = k) (n m s r : Int) (t : TypeId) : Box4 (w.alloc (.cells #[.int .i64 n, .int .i64 m, .int .i64 s, .int .i64 r] t)) k n m s r := by
  subst hk
  exact boxed4 w n m s r t

/-- four ints of the call's own in block b -/
structure Own4 (w : World) (b : Nat) (n m s r : Int) : Prop where
  box : Box4 w b n m s r
  f : ∀ o, w.frozen? ⟨b, o, none⟩ = false
theorem Own4.keep {w w' : World} {b : Nat} {n m s r : Int} (h : Own4 w b n m s r) (hb : Below w.heap.size w w') : Own4 w' b n m s r :=
  ⟨h.box.keep hb, fun o => (hb.frozen (p := ⟨b, o, none⟩) h.box.lt).trans (h.f o)⟩
theorem Own4.drew {w : World} {b : Nat} {n m s r : Int} (h : Own4 w b n m s r) : Own4 w.drew b n m s r := ⟨h.box.drew, h.f⟩
theorem Own4.drewN {w : World} {b : Nat} {n m s r : Int} (h : Own4 w b n m s r) (k : Nat) : Own4 (w.drewN k) b n m s r := ⟨h.box.drewN k, h.f⟩
theorem owned4 (w : World) (n m s r : Int) (t : TypeId) : Own4 (w.alloc (.cells #[.int .i64 n, .int .i64 m, .int .i64 s, .int .i64 r] t)) w.heap.size n m s r :=
  ⟨boxed4 w n m s r t, fun o => (World.rowIs_alloc w #[.int .i64 n, .int .i64 m, .int .i64 s, .int .i64 r] t (fun i => if i = 0 then .int .i64 n else if i = 1 then .int .i64 m else if i = 2 then .int .i64 s else .int .i64 r) (fun i hi => by
    have : i < 4 := hi
    match i, this with
    | 0, _ => rfl
    | 1, _ => rfl
    | 2, _ => rfl
    | 3, _ => rfl)).frozen o⟩

/-- four ints in block b, the words in block g; what was there ahead of N is as it was -/
structure En4 (w0 : World) (N b g : Nat) (n m s r : Int) (l : List Nat) (w : World) : Prop where
  box : Box4 w b n m s r
  row : w.rowIs g 41 8 (rowOf l)
  bg : b ≠ g
  below : Below N w0 w
  nN : N ≤ g
theorem En4.keep {w0 w w' : World} {N b g : Nat} {n m s r : Int} {l : List Nat} (h : En4 w0 N b g n m s r l w) (hb : Below w.heap.size w w') (hN : N ≤ w.heap.size) : En4 w0 N b g n m s r l w' :=
  ⟨h.box.keep hb, h.row.of_block (hb.block _ h.row.lt), h.bg, h.below.trans (hb.mono hN), h.nN⟩
theorem En4.drew {w0 w : World} {N b g : Nat} {n m s r : Int} {l : List Nat} (h : En4 w0 N b g n m s r l w) : En4 w0 N b g n m s r l w.drew :=
  ⟨h.box.drew, h.row.drew, h.bg, h.below.drew, h.nN⟩
theorem En4.set {w0 w : World} {N b g : Nat} {n m s r : Int} {l l' : List Nat} (h : En4 w0 N b g n m s r l w) (i x : Nat) (e : ∀ j, j < 8 → (if j = i then x else l[j]?.getD 0) = l'[j]?.getD 0) : En4 w0 N b g n m s r l' (w.setCell ⟨g, i, none⟩ (.int .u64 (x : Int))) :=
  ⟨⟨by simpa using h.box.lt, (cell_set_other h.bg _).trans h.box.c0, (cell_set_other h.bg _).trans h.box.c1, (cell_set_other h.bg _).trans h.box.c2, (cell_set_other h.bg _).trans h.box.c3⟩,
   (h.row.set i (.int .u64 (x : Int))).congr (fun j hj => by
    have := e j hj
    unfold rowOf
    rw [← this]
    split <;> rfl), h.bg, h.below.setCell h.nN _, h.nN⟩

theorem fds_four (w : World) {n m s r : Nat} (hn : n < 65536) (hm : m < 65536) (hs : s < 65536) (hr : r < 65536) : Pack.Fds (w.alloc (.cells #[.int .i64 16, .int .u64 (n : Int), .int .i64 16, .int .u64 (m : Int), .int .i64 16, .int .u64 (s : Int), .int .i64 16, .int .u64 (r : Int)] 47)) (some ⟨w.heap.size, 0, none⟩) [⟨16, n⟩, ⟨16, m⟩, ⟨16, s⟩, ⟨16, r⟩] :=
  ⟨fun f hf => by
    simp only [List.mem_cons, List.not_mem_nil, or_false] at hf
    rcases hf with rfl | rfl | rfl | rfl <;> exact ⟨by simp only; omega, by simp only; omega, by simp only; omega⟩, by simp, fun j hj => by
    have : j < 4 := hj
    match j, this with
    | 0, _ => exact ⟨w.heap.size, 0, rfl, by simp, Pack.alloc_cell _ _ _ _, Pack.alloc_cell _ _ _ _⟩
    | 1, _ => exact ⟨w.heap.size, 0, rfl, by simp, Pack.alloc_cell _ _ _ _, Pack.alloc_cell _ _ _ _⟩
    | 2, _ => exact ⟨w.heap.size, 0, rfl, by simp, Pack.alloc_cell _ _ _ _, Pack.alloc_cell _ _ _ _⟩
    | 3, _ => exact ⟨w.heap.size, 0, rfl, by simp, Pack.alloc_cell _ _ _ _, Pack.alloc_cell _ _ _ _⟩⟩

theorem nts_four (w : World) : Pack.Nts (w.alloc (.cells #[.int .i64 16, .int .i64 16, .int .i64 16, .int .i64 16] 3)) (some ⟨w.heap.size, 0, none⟩) [16, 16, 16, 16] :=
  ⟨fun f hf => by
    obtain rfl : f = 16 := by simpa using hf
    exact ⟨by decide, by decide⟩, by decide, fun j hj => by
    have : j < 4 := hj
    match j, this with
    | 0, _ => exact ⟨w.heap.size, 0, rfl, by simp, Pack.alloc_cell _ _ _ _⟩
    | 1, _ => exact ⟨w.heap.size, 0, rfl, by simp, Pack.alloc_cell _ _ _ _⟩
    | 2, _ => exact ⟨w.heap.size, 0, rfl, by simp, Pack.alloc_cell _ _ _ _⟩
    | 3, _ => exact ⟨w.heap.size, 0, rfl, by simp, Pack.alloc_cell _ _ _ _⟩⟩
end Lin
end Go.Proofs.Ytamkelcgalfkcaa
