/- A row of 64 bytes of the call's own; the program's put. -/
import Derived.Test.YtobffegkdoefnaaDoorEntMay
import Derived.Test.YtobffegkdoefnaaDoorCrcText
namespace Go.Proofs.YtobffegkdoefnaaDoor
open Go.RowKit Go.MapKept
namespace Ent

/-- 64 bytes in block g -/
def Row (w : World) (g : Nat) (f : Nat → Nat) : Prop := w.rowIs g 5 64 (fun i => Value.int .u8 ((f i : Nat) : Int))
/-- a list by its places -/
def at' (l : List Nat) (i : Nat) : Nat := l[i]?.getD 0

theorem Row.lt {w : World} {g : Nat} {f : Nat → Nat} (h : Row w g f) : g < w.heap.size := World.rowIs.lt h
theorem Row.keep {w w' : World} {g : Nat} {f : Nat → Nat} (h : Row w g f) (hb : Below w.heap.size w w') : Row w' g f := World.rowIs.of_block h (hb.block _ h.lt)
theorem Row.keepN {w w' : World} {g N : Nat} {f : Nat → Nat} (h : Row w g f) (hb : Below N w w') (hN : g < N) : Row w' g f := World.rowIs.of_block h (hb.block _ hN)
theorem Row.drew {w : World} {g : Nat} {f : Nat → Nat} (h : Row w g f) : Row w.drew g f := h
theorem Row.alloc {w : World} {g : Nat} {f : Nat → Nat} (h : Row w g f) (o : Obj) : Row (w.alloc o) g f := World.rowIs.alloc h o
theorem Row.cell {w : World} {g : Nat} {f : Nat → Nat} (h : Row w g f) {i : Nat} (hi : i < 64) : w.cell? ⟨g, i, none⟩ = some (.int .u8 ((f i : Nat) : Int)) := World.rowIs.cell h hi
theorem Row.frozen {w : World} {g : Nat} {f : Nat → Nat} (h : Row w g f) (i : Nat) : w.frozen? ⟨g, i, none⟩ = false := World.rowIs.frozen h i
theorem Row.congr {w : World} {g : Nat} {f f' : Nat → Nat} (h : Row w g f) (e : ∀ i, i < 64 → f i = f' i) : Row w g f' := World.rowIs.congr h (fun i hi => by rw [e i hi])
theorem Row.set {w : World} {g : Nat} {f : Nat → Nat} (h : Row w g f) (j x : Nat) : Row (w.setCell ⟨g, j, none⟩ (.int .u8 (x : Int))) g (fun i => if i = j then x else f i) :=
  World.rowIs.congr (World.rowIs.set h j (.int .u8 (x : Int))) (fun i _ => by by_cases e : i = j <;> simp [e])
theorem Row.bts {w : World} {g : Nat} {f : Nat → Nat} (h : Row w g f) (o : Nat) (l : List Nat) (hl : Crc.Byt l) (ho : o + l.length ≤ 64) (e : ∀ j (hj : j < l.length), f (o + j) = l[j]) : Crc.Bts w (some ⟨g, o, none⟩) l :=
  ⟨hl, by omega, fun j hj => ⟨g, o, rfl, h.lt, by rw [h.cell (by omega), e j hj]⟩⟩

/-- a number's bytes laid from place o on -/
def putf (f : Nat → Nat) (o x n : Nat) (i : Nat) : Nat := if o ≤ i ∧ i < o + n then x / 256 ^ (i - o) % 256 else f i
theorem putf_zero (f : Nat → Nat) (o x : Nat) : putf f o x 0 = f := by
  funext i
  unfold putf
  rw [if_neg (by omega)]
theorem putf_next (f : Nat → Nat) (o x n : Nat) (i : Nat) : (if i = o + n then x / 256 ^ n % 256 else putf f o x n i) = putf f o x (n + 1) i := by
  unfold putf
  by_cases h : i = o + n
  · subst h
    rw [if_pos rfl, if_pos (by omega)]
    congr 3
    omega
  · rw [if_neg h]
    by_cases h1 : o ≤ i ∧ i < o + n
    · rw [if_pos h1, if_pos (by omega)]
    · rw [if_neg h1, if_neg (by omega)]

set_option maxHeartbeats 1000000 in
theorem put_any (w : World) (g o n c x : Nat) (f : Nat → Nat) (h : Row w g f) (ho : o + n ≤ 64) (hx : x < 4294967296) (hn : n ≤ 4) :
    Calls Tryd.prog 35 #[.slice (some ⟨g, o, none⟩) n c, .int .u32 (x : Int)] w fun r w' => r = .returned (.tuple #[]) ∧ Row w' g (putf f o x n) ∧ Below g w w' := by
  have H := Lib.hid h
  clear h
  go_enter Tryd.func35, Tryd.ntmps35
  go_wp2
  go_loopw [7] (fun i wr => ∃ m : Nat, m ≤ n ∧ i = .int .i64 (m : Int) ∧ Row wr g (putf f o x m) ∧ Below g w wr) (fun i _ => n - (intOf i).toNat)
  case atStart => exact ⟨0, Nat.zero_le _, rfl, by rw [putf_zero]; exact H.out, Below.refl _ _⟩
  case round =>
    obtain ⟨m, hm, rfl, hr, hb⟩ := hrel
    have HR := Lib.hid hr
    have HB := Lib.hid hb
    clear hr hb
    by_cases hlt : m < n
    · have hc := HR.out.cell (i := o + m) (by omega)
      have hf := HR.out.frozen (o + m)
      have hsh : (x : Int) / 2 ^ (m * 8) = ((x / 256 ^ m : Nat) : Int) := by
        have : 256 ^ m = 2 ^ (m * 8) := by rw [Nat.mul_comm m 8, Nat.pow_mul]
        rw [this]
        simp
      have hyl : x / 256 ^ m < 4294967296 := Nat.lt_of_le_of_lt (Nat.div_le_self _ _) hx
      have HN := Lib.hid ((HR.out.set (o + m) (x / 256 ^ m % 256)).congr (fun i _ => putf_next f o x m i))
      have HBN := Lib.hid (HB.out.setCell (p := ⟨g, o + m, none⟩) (Nat.le_refl _) (.int .u8 ((x / 256 ^ m % 256 : Nat) : Int)))
      generalize x / 256 ^ m = y at *
      go_wp2
      exact ⟨⟨m + 1, by omega, by go_num, HN.out, HBN.out⟩, by simp [intOf]; omega⟩
    · obtain rfl : m = n := by omega
      go_wp2
      go_end0
      exact ⟨rfl, HR.out, HB.out⟩
end Ent
end Go.Proofs.YtobffegkdoefnaaDoor
