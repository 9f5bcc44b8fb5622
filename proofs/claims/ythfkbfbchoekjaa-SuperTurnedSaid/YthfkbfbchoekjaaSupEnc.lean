/- The program's superblock of a geometry. -/
import Derived.Test.YthfkbfbchoekjaaSupMath
namespace Go.Proofs.Ythfkbfbchoekjaa
open Go.RowKit Go.MapKept
namespace Sup

theorem number_any (w : World) (n : Nat) (h : n < 65536) :
    Calls Try.prog 24 #[.int .i64 (n : Int)] w fun r w' => r = .returned (.agg #[.int .i64 16, .int .u64 (n : Int)]) ∧ Below w.heap.size w w' := by
  go_enter Try.func24, Try.ntmps24
  go_wp2
  refine bodyPost_ret (v := .agg #[.int .i64 16, .int .u64 (n : Int)]) ?_ rfl ⟨rfl, ?_⟩
  · simp [results, Try.results24, go_sem]
  · first
    | exact (Below.refl _ _).alloc (Nat.le_refl _) _
    | exact (((Below.refl _ _).alloc (Nat.le_refl _) _).setCell (by simp) _).setCell (by simp) _

/-- words in a row -/
def rowOf (l : List Nat) (i : Nat) : Value := .int .u64 ((l[i]?.getD 0 : Nat) : Int)

/-- the geometry in block b, the words in block g; what was there ahead of N is as it was -/
structure En (w0 : World) (N b g : Nat) (n m s : Int) (l : List Nat) (w : World) : Prop where
  box : Geo.Box w b n m s
  row : w.rowIs g 39 8 (rowOf l)
  bg : b ≠ g
  below : Below N w0 w
  nN : N ≤ g

theorem En.keep {w0 w w' : World} {N b g : Nat} {n m s : Int} {l : List Nat} (h : En w0 N b g n m s l w) (hb : Below w.heap.size w w') (hN : N ≤ w.heap.size) : En w0 N b g n m s l w' :=
  ⟨h.box.keep hb, h.row.of_block (hb.block _ h.row.lt), h.bg, h.below.trans (hb.mono hN), h.nN⟩
theorem En.drew {w0 w : World} {N b g : Nat} {n m s : Int} {l : List Nat} (h : En w0 N b g n m s l w) : En w0 N b g n m s l w.drew :=
  ⟨h.box.drew, h.row.drew, h.bg, h.below.drew, h.nN⟩
theorem cell_set_other {w : World} {p q : Addr} (h : p.block ≠ q.block) (v : Value) : (w.setCell q v).cell? p = w.cell? p := World.cell?_of_block (w := w) (Below.heap_setCell w q v p.block h)
theorem En.set {w0 w : World} {N b g : Nat} {n m s : Int} {l l' : List Nat} (h : En w0 N b g n m s l w) (i x : Nat) (e : ∀ j, j < 8 → (if j = i then x else l[j]?.getD 0) = l'[j]?.getD 0) : En w0 N b g n m s l' (w.setCell ⟨g, i, none⟩ (.int .u64 (x : Int))) :=
  ⟨⟨by simpa using h.box.lt, (cell_set_other h.bg _).trans h.box.c0, (cell_set_other h.bg _).trans h.box.c1, (cell_set_other h.bg _).trans h.box.c2⟩,
   (h.row.set i (.int .u64 (x : Int))).congr (fun j hj => by
    have := e j hj
    unfold rowOf
    rw [← this]
    split <;> rfl), h.bg, h.below.setCell h.nN _, h.nN⟩

theorem set_magic (j : Nat) (h : j < 8) : (if j = 0 then magic else ([] : List Nat)[j]?.getD 0) = [magic][j]?.getD 0 := by
  match j, h with
  | 0, _ => rfl
  | j + 1, _ => simp
theorem set_nums (x : Nat) (j : Nat) (h : j < 8) : (if j = 1 then x else [magic][j]?.getD 0) = [magic, x][j]?.getD 0 := by
  match j, h with
  | 0, _ => rfl
  | 1, _ => rfl
  | j + 2, _ => simp
theorem set_sum (x y : Nat) (j : Nat) (h : j < 8) : (if j = 7 then y else [magic, x][j]?.getD 0) = [magic, x, 0, 0, 0, 0, 0, y][j]?.getD 0 := by
  have : j = 0 ∨ j = 1 ∨ j = 2 ∨ j = 3 ∨ j = 4 ∨ j = 5 ∨ j = 6 ∨ j = 7 := by omega
  rcases this with rfl | rfl | rfl | rfl | rfl | rfl | rfl | rfl <;> rfl

theorem row_crc {w : World} {g : Nat} {l k : List Nat} (h : w.rowIs g 39 8 (rowOf l)) (hk : k.length ≤ 8) (hu : ∀ x ∈ k, x < 18446744073709551616) (e : ∀ j (h : j < k.length), l[j]?.getD 0 = k[j]) : Crc.Wds w (some ⟨g, 0, none⟩) k :=
  ⟨hu, by omega, fun j hj => ⟨g, 0, rfl, h.lt, by
    rw [Nat.zero_add, h.cell (by omega)]
    unfold rowOf
    rw [e j hj]⟩⟩
theorem row_pack {w : World} {g : Nat} {l : List Nat} (h : w.rowIs g 39 8 (rowOf l)) (hk : l.length = 8) (hu : ∀ x ∈ l, x < 18446744073709551616) : Pack.Wds w (some ⟨g, 0, none⟩) l :=
  ⟨hu, by omega, fun j hj => ⟨g, 0, rfl, h.lt, by
    rw [Nat.zero_add, h.cell (by omega)]
    unfold rowOf
    rw [List.getElem?_eq_getElem hj]
    rfl⟩⟩

theorem front_crc {w : World} {g n m s : Nat} (h : w.rowIs g 39 8 (rowOf [magic, nums n m s])) (hn : n < 65536) (hm : m < 65536) (hs : s < 65536) : Crc.Wds w (some ⟨g, 0, none⟩) (front n m s) := by
  refine row_crc h (by rw [front_len]; omega) ?_ ?_
  · intro x hx
    have h1 := nums_lt hn hm hs
    have h3 := magic_lt
    simp only [front, List.mem_cons, List.not_mem_nil, or_false] at hx
    rcases hx with rfl | rfl | rfl | rfl | rfl | rfl | rfl <;> omega
  · intro j hj
    have : j < 7 := hj
    have : j = 0 ∨ j = 1 ∨ j = 2 ∨ j = 3 ∨ j = 4 ∨ j = 5 ∨ j = 6 := by omega
    rcases this with rfl | rfl | rfl | rfl | rfl | rfl | rfl <;> rfl

theorem bts_txt (w : World) : Pack.Bts (w.alloc (.cells #[.int .u8 67, .int .u8 65, .int .u8 78, .int .u8 84, .int .u8 76, .int .u8 69, .int .u8 48, .int .u8 49] 5 (8, 9))) (some ⟨w.heap.size, 0, none⟩) txt :=
  ⟨by unfold Pack.Byt; decide, by decide, fun j hj => ⟨w.heap.size, 0, rfl, by simp, by
    rw [World.cell?_alloc_mark, Nat.zero_add]
    have : j < 8 := hj
    match j, this with
    | 0, _ => rfl
    | 1, _ => rfl
    | 2, _ => rfl
    | 3, _ => rfl
    | 4, _ => rfl
    | 5, _ => rfl
    | 6, _ => rfl
    | 7, _ => rfl⟩⟩

/-- the text's word -/
theorem txt_any (w : World) : Calls Try.prog 22 #[.slice (some ⟨w.heap.size, 0, none⟩) 8 8] (w.alloc (.cells #[.int .u8 67, .int .u8 65, .int .u8 78, .int .u8 84, .int .u8 76, .int .u8 69, .int .u8 48, .int .u8 49] 5 (8, 9))) fun e w' => ∃ (b o gc : Nat), e = .returned (.slice (some ⟨b, o, none⟩) 1 gc) ∧ w'.cell? ⟨b, o, none⟩ = some (.int .u64 (magic : Int)) ∧ Below w.heap.size w w' := by
  refine (Pack.words_any _ 8 _ (bts_txt w) (by decide)).mono ?_
  rintro e w' ⟨G, gc, rfl, hw, hb⟩
  rw [txt_word] at hw ⊢
  obtain ⟨b, o, rfl, _, hc⟩ := hw.at' 0 (by decide)
  have hb0 := (Below.refl w.heap.size w).alloc (Nat.le_refl _) (.cells #[.int .u8 67, .int .u8 65, .int .u8 78, .int .u8 84, .int .u8 76, .int .u8 69, .int .u8 48, .int .u8 49] 5 (8, 9))
  exact ⟨b, o, gc, rfl, hc, hb0.trans (hb.mono hb0.size)⟩

theorem fds_three (w : World) {n m s : Nat} (hn : n < 65536) (hm : m < 65536) (hs : s < 65536) : Pack.Fds (w.alloc (.cells #[.int .i64 16, .int .u64 (n : Int), .int .i64 16, .int .u64 (m : Int), .int .i64 16, .int .u64 (s : Int)] 55)) (some ⟨w.heap.size, 0, none⟩) [⟨16, n⟩, ⟨16, m⟩, ⟨16, s⟩] :=
  ⟨fun f hf => by
    simp only [List.mem_cons, List.not_mem_nil, or_false] at hf
    rcases hf with rfl | rfl | rfl <;> exact ⟨by simp only; omega, by simp only; omega, by simp only; omega⟩, by simp, fun j hj => by
    have : j < 3 := hj
    match j, this with
    | 0, _ => exact ⟨w.heap.size, 0, rfl, by simp, Pack.alloc_cell _ _ _ _, Pack.alloc_cell _ _ _ _⟩
    | 1, _ => exact ⟨w.heap.size, 0, rfl, by simp, Pack.alloc_cell _ _ _ _, Pack.alloc_cell _ _ _ _⟩
    | 2, _ => exact ⟨w.heap.size, 0, rfl, by simp, Pack.alloc_cell _ _ _ _, Pack.alloc_cell _ _ _ _⟩⟩

theorem nums_any (w : World) {n m s : Nat} (hn : n < 65536) (hm : m < 65536) (hs : s < 65536) : Calls Try.prog 23 #[.slice (some ⟨w.heap.size, 0, none⟩) 3 3] (w.alloc (.cells #[.int .i64 16, .int .u64 (n : Int), .int .i64 16, .int .u64 (m : Int), .int .i64 16, .int .u64 (s : Int)] 55)) fun e w' => e = .returned (.tuple #[.int .u64 (nums n m s : Nat), .bool true]) ∧ Below w.heap.size w w' := by
  refine (Pack.pack_any _ 3 _ (fds_three w hn hm hs)).mono ?_
  rintro e w' ⟨rfl, hb⟩
  rw [pk_nums hn hm hs]
  have hb0 := (Below.refl w.heap.size w).alloc (Nat.le_refl _) (.cells #[.int .i64 16, .int .u64 (n : Int), .int .i64 16, .int .u64 (m : Int), .int .i64 16, .int .u64 (s : Int)] 55)
  exact ⟨rfl, hb0.trans (hb.mono hb0.size)⟩
end Sup
end Go.Proofs.Ythfkbfbchoekjaa
