/- A map as it lies in memory; what a call may change; truths as they lie. -/
import Derived.Test.YtblibjjnbbleeaaDoorBmMath
import Derived.Test.YtblibjjnbbleeaaDoorPackFields
import Derived.Deep.OwnRows
import Derived.Deep.QuietTactic
import Derived.BigQuiet
import Derived.RegionTactic
import Derived.ChangeAlike
namespace Go.Proofs.YtblibjjnbbleeaaDoor
open Go.RowKit Go.MapKept
namespace Bm
open Pack (Wds Nts)

/-- a row of at least n cells, the first n by a function of the place -/
def Row (w : World) (q : Nat) (t : TypeId) (n : Nat) (f : Nat → Value) : Prop := ∃ (N : Nat) (g : Nat → Value), n ≤ N ∧ w.rowIs q t N g ∧ ∀ i, i < n → g i = f i

section
variable {w w' : World} {q n : Nat} {t : TypeId} {f g : Nat → Value}
theorem Row.cell (h : Row w q t n f) {i : Nat} (hi : i < n) : w.cell? ⟨q, i, none⟩ = some (f i) := by
  obtain ⟨N, g, hN, hr, he⟩ := h
  rw [hr.cell (by omega), he i hi]
theorem Row.frozen (h : Row w q t n f) (i : Nat) : w.frozen? ⟨q, i, none⟩ = false := by
  obtain ⟨_, _, _, hr, _⟩ := h
  exact hr.frozen i
theorem Row.lt (h : Row w q t n f) : q < w.heap.size := by
  obtain ⟨_, _, _, hr, _⟩ := h
  exact hr.lt
theorem Row.congr (h : Row w q t n f) (e : ∀ i, i < n → f i = g i) : Row w q t n g := by
  obtain ⟨N, k, hN, hr, he⟩ := h
  exact ⟨N, k, hN, hr, fun i hi => (he i hi).trans (e i hi)⟩
theorem Row.of_block (h : Row w q t n f) (e : w'.heap[q]? = w.heap[q]?) : Row w' q t n f := by
  obtain ⟨N, k, hN, hr, he⟩ := h
  exact ⟨N, k, hN, hr.of_block e, he⟩
theorem Row.set (h : Row w q t n f) (i : Nat) (v : Value) : Row (w.setCell ⟨q, i, none⟩ v) q t n (fun j => if j = i then v else f j) := by
  obtain ⟨N, k, hN, hr, he⟩ := h
  refine ⟨N, _, hN, hr.set i v, fun j hj => ?_⟩
  by_cases e : j = i
  · simp [e]
  · simp [e, he j hj]
theorem Row.drew (h : Row w q t n f) : Row w.drew q t n f := h
theorem Row.drewN (h : Row w q t n f) (k : Nat) : Row (w.drewN k) q t n f := h
theorem row_of_is (h : w.rowIs q t n f) : Row w q t n f := ⟨n, f, Nat.le_refl _, h, fun _ _ => rfl⟩
theorem row_of_own {B c : Nat} {G : Option Addr} {xs : List Value} (h : w.ownsRow B t 1 (.slice G n c) n xs) (hG : ∀ i, i < n → xs[i]? = some (f i)) (hq : G = some ⟨q, 0, none⟩) : Row w q t n f := by
  rcases h.2 with ⟨e, h0⟩ | ⟨g, cap, cur, e, _, hh, hc, _, hsz, ht⟩
  · injection e with e
    rw [hq] at e
    cases e
  · injection e with e _ _
    rw [hq] at e
    injection e with e
    injection e with e
    subst e
    refine ⟨cur.size, fun i => cur[i]?.getD (.bool false), by omega, ⟨cur, hh, rfl, fun i hi => by simp [hi]⟩, fun i hi => ?_⟩
    have := congrArg (·[i]?) ht
    simp only [Nat.mul_one] at this
    rw [List.getElem?_take, if_pos hi, hG i hi, Array.getElem?_toList] at this
    simp [this]
end

/-- but for block q all that was there is as it was -/
structure Chg (q : Nat) (w w' : World) : Prop where
  os : w'.os = w.os
  tape : w'.tape = w.tape
  output : w'.output = w.output
  size : w.heap.size ≤ w'.heap.size
  block : ∀ k, k < w.heap.size → k ≠ q → w'.heap[k]? = w.heap[k]?

section
variable {q : Nat} {w w' w'' : World}
theorem Chg.refl (q : Nat) (w : World) : Chg q w w := ⟨rfl, rfl, rfl, Nat.le_refl _, fun _ _ _ => rfl⟩
theorem Chg.trans (h : Chg q w w') (k : Chg q w' w'') : Chg q w w'' :=
  ⟨k.os.trans h.os, k.tape.trans h.tape, k.output.trans h.output, Nat.le_trans h.size k.size,
    fun b hb hn => (k.block b (Nat.lt_of_lt_of_le hb h.size) hn).trans (h.block b hb hn)⟩
theorem Chg.drew (h : Chg q w w') : Chg q w w'.drew := ⟨h.os, h.tape, h.output, h.size, h.block⟩
theorem Chg.drewN (h : Chg q w w') (n : Nat) : Chg q w (w'.drewN n) := ⟨h.os, h.tape, h.output, h.size, h.block⟩
theorem Chg.alloc (h : Chg q w w') (o : Obj) : Chg q w (w'.alloc o) :=
  ⟨h.os, h.tape, h.output, Nat.le_trans h.size (by simp), fun b hb hn => (Below.heap_alloc w' o b (Nat.lt_of_lt_of_le hb h.size)).trans (h.block b hb hn)⟩
theorem Chg.setCell (h : Chg q w w') {p : Addr} (hp : p.block = q) (u : Value) : Chg q w (w'.setCell p u) :=
  ⟨h.os, h.tape, h.output, Nat.le_trans h.size (by simp [World.setCell]), fun b hb hn => (Below.heap_setCell w' p u b (fun e => hn (by rw [e, hp]))).trans (h.block b hb hn)⟩
theorem chg_of_below (h : Below w.heap.size w w') (q : Nat) : Chg q w w' := ⟨h.os, h.tape, h.output, h.size, fun b hb _ => h.block b hb⟩
theorem Chg.below {B : Nat} (h : Chg q w w') (hB : B ≤ w.heap.size) (hq : B ≤ q) : Below B w w' :=
  ⟨h.os, h.tape, h.output, h.size, fun b hb => h.block b (by omega) (by omega)⟩
theorem Chg.cell (h : Chg q w w') {p : Addr} (hp : p.block < w.heap.size) (hn : p.block ≠ q) : w'.cell? p = w.cell? p := World.cell?_of_block (w := w) (h.block _ hp hn)
end

/-- a map: n blocks, those of f, in K words; its struct in block p, its words in block q -/
structure Mp (w : World) (p q K C n : Nat) (f : Nat → Bool) : Prop where
  lt : p < w.heap.size
  c0 : w.cell? ⟨p, 0, none⟩ = some (.int .i64 (n : Int))
  c1 : w.cell? ⟨p, 1, none⟩ = some (.slice (some ⟨q, 0, none⟩) K C)
  row : Row w q 68 K (fun k => .int .u64 (wd f k : Int))
  ne : p ≠ q
  far : ∀ b, n ≤ b → f b = false
  max : n ≤ 65534
  hK : K = (n + 63) / 64
  cap : K ≤ C

section
variable {w w' : World} {p q K C n : Nat} {f : Nat → Bool}
theorem Mp.kk (h : Mp w p q K C n f) : 64 * K < n + 64 ∧ n ≤ 64 * K := by have := h.hK; omega
theorem Mp.chg {r : Nat} (h : Mp w p q K C n f) (hc : Chg r w w') (hp : p ≠ r) (hq : q ≠ r) : Mp w' p q K C n f :=
  ⟨Nat.lt_of_lt_of_le h.lt hc.size, (hc.cell (p := ⟨p, 0, none⟩) h.lt hp).trans h.c0, (hc.cell (p := ⟨p, 1, none⟩) h.lt hp).trans h.c1, h.row.of_block (hc.block _ h.row.lt hq), h.ne, h.far, h.max, h.hK, h.cap⟩
theorem Mp.keep (h : Mp w p q K C n f) (hb : Below w.heap.size w w') : Mp w' p q K C n f :=
  h.chg (chg_of_below hb w.heap.size) (Nat.ne_of_lt h.lt) (Nat.ne_of_lt h.row.lt)
theorem Mp.drewN (h : Mp w p q K C n f) (k : Nat) : Mp (w.drewN k) p q K C n f := ⟨h.lt, h.c0, h.c1, h.row, h.ne, h.far, h.max, h.hK, h.cap⟩
theorem Mp.drew (h : Mp w p q K C n f) : Mp w.drew p q K C n f := ⟨h.lt, h.c0, h.c1, h.row, h.ne, h.far, h.max, h.hK, h.cap⟩
theorem Mp.congr {g : Nat → Bool} (h : Mp w p q K C n f) (e : ∀ b, f b = g b) : Mp w p q K C n g := by
  obtain rfl : f = g := funext e
  exact h
/-- a block's bit is stored -/
theorem Mp.set (h : Mp w p q K C n f) (b : Nat) (hb : b < n) (v : Bool) : Mp (w.setCell ⟨q, b / 64, none⟩ (.int .u64 (wd (upd f b v) (b / 64) : Int))) p q K C n (upd f b v) :=
  ⟨by simpa using h.lt, (World.cell?_of_block (w := w) (a := ⟨p, 0, none⟩) (Below.heap_setCell w _ _ p h.ne)).trans h.c0, (World.cell?_of_block (w := w) (a := ⟨p, 1, none⟩) (Below.heap_setCell w _ _ p h.ne)).trans h.c1,
   (h.row.set (b / 64) _).congr (fun k _ => by
     by_cases e : k = b / 64
     · subst e; rw [if_pos rfl]
     · rw [if_neg e, wd_upd_other f b k v e]), h.ne, fun x hx => by
     unfold upd
     rw [if_neg (by omega)]
     exact h.far x hx, h.max, h.hK, h.cap⟩
end

/-- words as a list -/
def wds (f : Nat → Bool) (K : Nat) : List Nat := (List.range K).map (wd f)
theorem wds_len (f : Nat → Bool) (K : Nat) : (wds f K).length = K := by simp [wds]
theorem wds_get (f : Nat → Bool) (K j : Nat) (h : j < (wds f K).length) : (wds f K)[j] = wd f j := by simp [wds]
theorem Row.wds {w : World} {q K : Nat} {f : Nat → Bool} (h : Row w q 68 K (fun k => .int .u64 (wd f k : Int))) (hK : K ≤ 9223372036854775807) : Wds w (some ⟨q, 0, none⟩) (wds f K) :=
  ⟨fun x hx => by
    obtain ⟨k, _, rfl⟩ := List.mem_map.1 hx
    exact wd_lt f k, by rw [wds_len]; exact hK, fun j hj => ⟨q, 0, rfl, h.lt, by
    rw [wds_get]
    rw [wds_len] at hj
    rw [Nat.zero_add, h.cell hj]⟩⟩

/-- truths as they lie, in a block that isn't q -/
structure Bls (w : World) (q : Nat) (A : Option Addr) (n : Nat) (f : Nat → Bool) : Prop where
  at' : ∀ j, j < n → ∃ b o, A = some ⟨b, o, none⟩ ∧ b < w.heap.size ∧ b ≠ q ∧ w.cell? ⟨b, o + j, none⟩ = some (.bool (f j))
theorem Bls.chg {w w' : World} {q n : Nat} {A : Option Addr} {f : Nat → Bool} (h : Bls w q A n f) (hc : Chg q w w') : Bls w' q A n f :=
  ⟨fun j hj => by
    obtain ⟨b, o, e, hlt, hn, hx⟩ := h.at' j hj
    exact ⟨b, o, e, Nat.lt_of_lt_of_le hlt hc.size, hn, (hc.cell (p := ⟨b, o + j, none⟩) hlt hn).trans hx⟩⟩
theorem Bls.keep {w w' : World} {q n : Nat} {A : Option Addr} {f : Nat → Bool} (h : Bls w q A n f) (hb : Below w.heap.size w w') : Bls w' q A n f := h.chg (chg_of_below hb q)
theorem Bls.congr {w : World} {q n : Nat} {A : Option Addr} {f g : Nat → Bool} (h : Bls w q A n f) (e : ∀ j, j < n → f j = g j) : Bls w q A n g :=
  ⟨fun j hj => by rw [← e j hj]; exact h.at' j hj⟩

/-- the table of math/bits -/
def Tab (w : World) : Prop := ∀ j, j < 64 → w.cell? ⟨0, j, none⟩ = some (.int .u8 ((Lib.deBruijn64tab.getD j 0 : Nat) : Int))
theorem Tab.lt {w : World} (h : Tab w) : 0 < w.heap.size := by
  have := h 0 (by decide)
  rcases Nat.lt_or_ge 0 w.heap.size with h1 | h1
  · exact h1
  · simp [World.cell?, Array.getElem?_eq_none h1] at this
theorem Tab.chg {w w' : World} {q : Nat} (h : Tab w) (hc : Chg q w w') (hq : 0 ≠ q) : Tab w' := fun j hj => (hc.cell (p := ⟨0, j, none⟩) h.lt hq).trans (h j hj)
theorem Tab.below {w w' : World} {B : Nat} (h : Tab w) (hb : Below B w w') (hB : 0 < B) : Tab w' := fun j hj => (hb.cell (p := ⟨0, j, none⟩) hB).trans (h j hj)
theorem Tab.drewN {w : World} (h : Tab w) (k : Nat) : Tab (w.drewN k) := h
end Bm
end Go.Proofs.YtblibjjnbbleeaaDoor
