/- GeometryApart, walked: no word is of two things, and all words are of one, but those that fill lines. -/
import Derived.Test.YtoagfpjaaiodgaaGeoMark
namespace Go.Proofs.Ytoagfpjaaiodgaa
open Go.RowKit Go.MapKept
namespace Geo

theorem int_info : (Try.prog.info? 3).map (fun i => (i.zero, i.size, i.bytes)) = some (some (.int .i64 0), 1, 8) := by kernel_rfl

/-- the numbers of a small geometry: inodes, blocks, a block's words; where the slots, the bitmap and the blocks begin; the bitmap's words; all words -/
structure Plan where
  (M B q sl bm bk wn L : Nat)
/-- that they are those of a geometry -/
structure Plan.Is (p : Plan) (n m s : Int) : Prop where
  ok : may n m s = true
  eN : n = (p.B : Int)
  eM : m = (p.M : Int)
  eQ : s / 8 = (p.q : Int)
  B1 : 1 ≤ p.B
  B2 : p.B ≤ 256
  M1 : 1 ≤ p.M
  M2 : p.M ≤ 256
  q1 : 8 ≤ p.q
  q2 : p.q ≤ 32
  q8 : p.q % 8 = 0
  eS : p.sl = 16 + 8 * p.M
  eB : bmAt n m = (p.bm : Int)
  eK : bkAt n m = (p.bk : Int)
  eW : (n + 63) / 64 = (p.wn : Int)
  eL : p.L = p.bk + p.B * p.q
  eF : Geo.fin n m s = (p.L : Int)
  bm1 : p.sl + p.B ≤ p.bm
  bm2 : p.bm ≤ p.sl + p.B + 7
  bm8 : p.bm % 8 = 0
  bk1 : p.bm + p.wn ≤ p.bk
  bk2 : p.bk ≤ p.bm + p.wn + 7
  bk8 : p.bk % 8 = 0

theorem plan_is (n m k : Nat) (hn : n < 256) (hm : m < 256) : ∃ p : Plan, p.Is (1 + n) (1 + m) (sz k) := by
  obtain ⟨q, hq, hq1, hq2, hq8⟩ : ∃ q : Nat, sz k / 8 = (q : Int) ∧ 8 ≤ q ∧ q ≤ 32 ∧ q % 8 = 0 := by
    rcases sz_cases k with h | h | h <;> rw [h]
    · exact ⟨8, by decide⟩
    · exact ⟨16, by decide⟩
    · exact ⟨32, by decide⟩
  have h1 : (1 : Int) ≤ 1 + (n : Int) ∧ 1 + (n : Int) ≤ 65534 := by omega
  have h2 : (1 : Int) ≤ 1 + (m : Int) ∧ 1 + (m : Int) ≤ 65534 := by omega
  have b1 := bm_bounds h1 h2
  have b2 := bk_bounds h1 h2
  have e1 : (((bmAt (1 + n) (1 + m)).toNat : Nat) : Int) = bmAt (1 + n) (1 + m) := by omega
  have e2 : (((bkAt (1 + n) (1 + m)).toNat : Nat) : Int) = bkAt (1 + n) (1 + m) := by omega
  have hf : Geo.fin (1 + n) (1 + m) (sz k) = bkAt (1 + n) (1 + m) + (1 + n) * (sz k / 8) := rfl
  have e3 : Geo.fin (1 + n) (1 + m) (sz k) = (((bkAt (1 + n) (1 + m)).toNat + (n + 1) * q : Nat) : Int) := by
    rw [hf, hq]
    have : (((n + 1) * q : Nat) : Int) = (1 + (n : Int)) * (q : Int) := by push_cast; rw [Int.add_comm]
    omega
  refine ⟨⟨m + 1, n + 1, q, 16 + 8 * (m + 1), (bmAt (1 + n) (1 + m)).toNat, (bkAt (1 + n) (1 + m)).toNat, (n + 64) / 64, (bkAt (1 + n) (1 + m)).toNat + (n + 1) * q⟩, ?_⟩
  constructor <;> first | exact small_may n m k hn hm | exact e3 | exact hq | (dsimp only; omega) | rfl

/-- the inodes' words, up to the i-th one, are marked -/
def c1 (i : Nat) (j : Nat) : Nat := if j < 16 + 8 * i then 1 else 0
/-- and so many slots and blocks -/
def c2 (p : Plan) (b : Nat) (j : Nat) : Nat := (if j < p.sl + b then 1 else 0) + if p.bk ≤ j ∧ j < p.bk + b * p.q then 1 else 0
/-- how many of the first k words are nobody's -/
def zr (p : Plan) (k : Nat) : Nat := (min k p.bm - (p.sl + p.B)) + (min k p.bk - (p.bm + p.wn))

theorem c1_le (i j : Nat) : c1 i j ≤ 5 := by unfold c1; split <;> omega
theorem c2_le (p : Plan) (i j : Nat) : c2 p i j ≤ 2 := by unfold c2; split <;> split <;> omega
theorem add_le {cnt : Nat → Nat} {a z : Nat} (h : ∀ j, cnt j ≤ 2) (j : Nat) : add cnt a z j ≤ 5 := by have := h j; unfold add; split <;> omega
theorem c1_start (j : Nat) : add (add (fun _ => 0) 0 (0 + 8)) 8 (8 + 8) j = c1 0 j := by unfold add c1; dsimp only; split <;> split <;> split <;> omega
theorem c1_step (i j : Nat) : add (c1 i) (16 + 8 * i) (16 + 8 * i + 8) j = c1 (i + 1) j := by unfold add c1; split <;> split <;> split <;> omega
theorem c2_start (p : Plan) (h : p.sl = 16 + 8 * p.M) (j : Nat) : c1 p.M j = c2 p 0 j := by unfold c1 c2; rw [h]; split <;> split <;> (try split) <;> omega
theorem c2_step (p : Plan) (b j : Nat) : add (add (c2 p b) (p.sl + b) (p.sl + b + 1)) (p.bk + b * p.q) (p.bk + b * p.q + p.q) j = c2 p (b + 1) j := by
  unfold add c2
  have e : (b + 1) * p.q = b * p.q + p.q := Nat.succ_mul b p.q
  rw [e]
  generalize b * p.q = x
  split <;> split <;> split <;> split <;> split <;> split <;> omega
theorem c3_one {p : Plan} {n m s : Int} (h : p.Is n m s) (j : Nat) (hj : j < p.L) :
    (add (c2 p p.B) p.bm (p.bm + p.wn) j = 0 ∧ zr p (j + 1) = zr p j + 1) ∨ (add (c2 p p.B) p.bm (p.bm + p.wn) j = 1 ∧ zr p (j + 1) = zr p j) := by
  have h1 := h.bm1
  have h2 := h.bk1
  have h3 := h.eL
  unfold add c2 zr
  generalize p.B * p.q = x at *
  split <;> split <;> split <;> omega
theorem zr_lt {p : Plan} {n m s : Int} (h : p.Is n m s) (k : Nat) : zr p k < 16 := by
  have h1 := h.bm2
  have h2 := h.bk2
  unfold zr
  omega

theorem St.keep' {w0 w w' : World} {b c A L : Nat} {n m s : Int} {cnt : Nat → Nat} (h : St w0 w0.heap.size b c A L n m s cnt w) (hb : Below w.heap.size w w') : St w0 w0.heap.size b c A L n m s cnt w' :=
  h.keep hb h.below.size
end Geo
end Go.Proofs.Ytoagfpjaaiodgaa
