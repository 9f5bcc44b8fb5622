/- The chapter's example; and what new parts hold. -/
import Derived.Test.YtobffegkdoefnaaDoorCrcSum
import Derived.Laws.IdiomStrings
import Derived.Laws.BytesArg
namespace Go.Proofs.YtobffegkdoefnaaDoor
open Go.RowKit Go.MapKept
namespace Crc

theorem conv_new (w : World) (C : Array Value) (n c : Nat) : (convert 43 43 (.slice (some ⟨w.heap.size, 0, none⟩) n c)).run Tryd.prog (w.alloc (.cells C 5)) = .ok (.slice (some ⟨w.heap.size, 0, none⟩) n c) (w.alloc (.cells C 5 (C.size, C.size + 1))) := by
  have hsh : (w.alloc (.cells C 5)).shape? w.heap.size = some (5, C.size) := by
    have : (w.alloc (.cells C 5)).heap[w.heap.size]? = some (.cells C 5) := by
      show (w.heap.push (.cells C 5))[w.heap.size]? = _
      simp
    unfold World.shape?
    rw [this]
  have hfr : (w.alloc (.cells C 5)).freeze ⟨w.heap.size, C.size, none⟩ 1 = w.alloc (.cells C 5 (C.size, C.size + 1)) := by
    have hm : ∀ (a : Array Obj) (x : Obj) (f : Obj → Obj), (a.push x).modify a.size f = a.push (f x) := by
      intro a x f
      apply Array.ext
      · simp
      · intro i h1 h2
        simp only [Array.getElem_modify, Array.getElem_push]
        by_cases h : a.size = i
        · subst h
          simp
        · have hi : i < a.size := by simp at h1; omega
          simp [h, hi]
    unfold World.freeze
    rw [if_neg (by decide)]
    show ({ w.alloc (.cells C 5) with heap := (w.heap.push (.cells C 5)).modify w.heap.size _ } : World) = _
    rw [hm]
    rfl
  simp [convert, run_underlying Tryd.underlying43, run_underlying Tryd.underlying5, markStringish, hsh, hfr]

theorem Bts.keep {w w' : World} {A : Option Addr} {l : List Nat} (h : Bts w A l) (hb : Below w.heap.size w w') : Bts w' A l :=
  ⟨h.byt, h.len, fun j hj => by
    obtain ⟨b, o, e, hlt, hc⟩ := h.at' j hj
    exact ⟨b, o, e, Nat.lt_of_lt_of_le hlt hb.size, (hb.cell (p := ⟨b, o + j, none⟩) hlt).trans hc⟩⟩

theorem Pts.keep {w w' : World} {A : Option Addr} {ps : List Prt} (h : Pts w A ps) (hb : Below w.heap.size w w') : Pts w' A ps :=
  ⟨h.len, fun j hj => by
    obtain ⟨b, o, e, hlt, hc⟩ := h.at' j hj
    exact ⟨b, o, e, Nat.lt_of_lt_of_le hlt hb.size, (hb.cell (p := ⟨b, o + j, none⟩) hlt).trans hc⟩, fun i hi => (h.bts i hi).keep hb⟩

theorem Bts.alloc {w : World} {A : Option Addr} {l : List Nat} (h : Bts w A l) (o : Obj) : Bts (w.alloc o) A l := h.keep ((Below.refl _ _).alloc (Nat.le_refl _) o)
theorem Pts.alloc {w : World} {A : Option Addr} {ps : List Prt} (h : Pts w A ps) (o : Obj) : Pts (w.alloc o) A ps := h.keep ((Below.refl _ _).alloc (Nat.le_refl _) o)

/-- the cell of a part -/
def Prt.val (q : Prt) : Value := .slice q.a q.l.length q.c

theorem alloc_cell (w : World) (C : Array Value) (t : TypeId) (j : Nat) : (w.alloc (.cells C t)).cell? ⟨w.heap.size, j, none⟩ = C[j]? := World.cell?_alloc_mark w C t _ j

/-- new parts -/
theorem pts_new {w : World} (ps : List Prt) (t : TypeId) (hn : ps.length ≤ 9223372036854775807) (h : ∀ i (h : i < ps.length), Bts w ps[i].a ps[i].l) : Pts (w.alloc (.cells (ps.map Prt.val).toArray t)) (some ⟨w.heap.size, 0, none⟩) ps :=
  ⟨hn, fun i hi => ⟨w.heap.size, 0, rfl, by simp, by
    rw [alloc_cell, Nat.zero_add, List.getElem?_toArray, List.getElem?_map, List.getElem?_eq_getElem hi]
    rfl⟩, fun i hi => (h i hi).alloc _⟩

theorem pts_one {w : World} {A : Option Addr} {l : List Nat} (c : Nat) (h : Bts w A l) : Pts (w.alloc (.cells #[.slice A l.length c] 43)) (some ⟨w.heap.size, 0, none⟩) [⟨A, c, l⟩] :=
  pts_new [⟨A, c, l⟩] _ (by simp) (fun i hi => by
    obtain rfl : i = 0 := by simpa using hi
    exact h)

def L9 : List Nat := [49, 50, 51, 52, 53, 54, 55, 56, 57]

theorem bts_nine (w : World) : Bts (w.alloc (.cells #[.int .u8 49, .int .u8 50, .int .u8 51, .int .u8 52, .int .u8 53, .int .u8 54, .int .u8 55, .int .u8 56, .int .u8 57] 5 (9, 10))) (some ⟨w.heap.size, 0, none⟩) L9 :=
  ⟨by unfold Byt; decide, by decide, fun j hj => ⟨w.heap.size, 0, rfl, by simp, by
    rw [World.cell?_alloc_mark, Nat.zero_add]
    have : j < 9 := hj
    match j, this with
    | 0, _ => rfl
    | 1, _ => rfl
    | 2, _ => rfl
    | 3, _ => rfl
    | 4, _ => rfl
    | 5, _ => rfl
    | 6, _ => rfl
    | 7, _ => rfl
    | 8, _ => rfl⟩⟩

theorem flat_one (a : Option Addr) (c : Nat) (l : List Nat) : flat [⟨a, c, l⟩] = l := by simp [flat]

theorem s32_nine : S32 L9 = 3421780262 := by decide +kernel
theorem s16_nine : S16 L9 = 10673 := by decide +kernel

/-- the sums of one part -/
theorem sum32_one {w : World} {A : Option Addr} {l : List Nat} (c cc : Nat) (h : Bts w A l) :
    Calls Tryd.prog 36 #[.slice (some ⟨w.heap.size, 0, none⟩) 1 cc] (w.alloc (.cells #[.slice A l.length c] 43)) fun e w' => e = .returned (.int .u32 (S32 l : Nat)) ∧ w.alloc (.cells #[.slice A l.length c] 43) = w' := by
  have := sum32_any _ cc _ (pts_one c h)
  rw [flat_one] at this
  exact this
theorem sum16_one {w : World} {A : Option Addr} {l : List Nat} (c cc : Nat) (h : Bts w A l) :
    Calls Tryd.prog 37 #[.slice (some ⟨w.heap.size, 0, none⟩) 1 cc] (w.alloc (.cells #[.slice A l.length c] 43)) fun e w' => e = .returned (.int .u16 (S16 l : Nat)) ∧ w.alloc (.cells #[.slice A l.length c] 43) = w' := by
  have := sum16_any _ cc _ (pts_one c h)
  rw [flat_one] at this
  exact this

set_option maxHeartbeats 1600000 in
set_option maxRecDepth 100000 in
theorem lives_any (w : World) : Calls Tryd.prog 26 #[] w fun r w' => r = .returned (.bool true) ∧ Below w.heap.size w w' := by
  have h1 := bts_nine w
  have hcv := conv_new w #[.int .u8 49, .int .u8 50, .int .u8 51, .int .u8 52, .int .u8 53, .int .u8 54, .int .u8 55, .int .u8 56, .int .u8 57] 9 9
  have c1 := sum32_one 9 1 h1
  have c2 := sum16_one 9 1 (h1.alloc (.cells #[.slice (some ⟨w.heap.size, 0, none⟩) 9 9] 43))
  rw [s32_nine, World.size_alloc] at c1
  rw [s16_nine, World.size_alloc, World.size_alloc] at c2
  have hb : Below w.heap.size w (((w.alloc (.cells #[.int .u8 49, .int .u8 50, .int .u8 51, .int .u8 52, .int .u8 53, .int .u8 54, .int .u8 55, .int .u8 56, .int .u8 57] 5 (9, 10))).alloc (.cells #[.slice (some ⟨w.heap.size, 0, none⟩) 9 9] 43)).alloc (.cells #[.slice (some ⟨w.heap.size, 0, none⟩) 9 9] 43)) :=
    (((Below.refl _ _).alloc (Nat.le_refl _) _).alloc (by simp) _).alloc (by simp; omega) _
  have C1 := Lib.hid c1
  have C2 := Lib.hid c2
  have HB := Lib.hid hb
  clear h1 c1 c2 hb
  go_enter Tryd.func26, Tryd.ntmps26
  go_wp2_with fail
  refine C1.out.mono ?_
  rintro e w' ⟨rfl, rfl⟩
  go_wp2_with fail
  refine C2.out.mono ?_
  rintro e w' ⟨rfl, rfl⟩
  go_wp2
  go_ret
  exact ⟨rfl, HB.out⟩
end Crc
end Go.Proofs.YtobffegkdoefnaaDoor
