/- Texts laid together: ClmSmall, VolStill, BmOf, BmRefOf, VolRefRead, ChnRef, ChnRefBlk, ClmRefTell, ClmFo, ClmRo. -/
import Derived.Test.YtilolepbfmcbgaaGreatDoorKr7
import Derived.Test.YtilolepbfmcbgaaGreatDoorKr8
import Derived.IntWalk
import Derived.Test.YtilolepbfmcbgaaGreatDoorKa2
import Derived.Test.YtilolepbfmcbgaaGreatDoorKr5
import Derived.Test.YtilolepbfmcbgaaGreatDoorKr6
import Derived.Test.YtilolepbfmcbgaaGreatDoorKr2
import Derived.Test.YtilolepbfmcbgaaGreatDoorKr10
import Derived.Test.YtilolepbfmcbgaaGreatDoorKa1
import Derived.Test.YtilolepbfmcbgaaGreatDoorKa3
import Derived.Test.YtilolepbfmcbgaaGreatDoorKr1
import Derived.Test.YtilolepbfmcbgaaGreatDoorKr3
import Derived.Test.YtilolepbfmcbgaaGreatDoorKr4
import Derived.Test.YtilolepbfmcbgaaGreatDoorKr9
import Derived.Test.YtilolepbfmcbgaaGreatDoorKt1
/- The document's need and has. -/
namespace Go.Proofs.YtilolepbfmcbgaaGreatDoor
open Go.RowKit Go.MapKept
namespace Clm

set_option maxHeartbeats 1000000 in
theorem need_any (w : World) (s z : Nat) (hs : 0 < s) (hs2 : s ≤ 128) (hz : z ≤ 268435456) :
    Calls Tryz.prog 43 #[.int .i64 (s : Int), .int .i64 (z : Int)] w fun r w' => r = .returned (.int .i64 (need s z : Nat)) ∧ Below w.heap.size w w' := by
  obtain ⟨c, hc⟩ : ∃ c, c = need s z := ⟨_, rfl⟩
  rw [← hc]
  obtain ⟨h1, h2⟩ := (need_iff hs).1 hc
  have hcz : c ≤ z := by
    rcases Nat.eq_zero_or_pos c with h0 | h0
    · omega
    · have h3 := h2 (c - 1) (by omega)
      have h4 : (c - 1) * 1 ≤ (c - 1) * s := Nat.mul_le_mul_left _ hs
      omega
  have H1 := Lib.hid h1
  have H2 := Lib.hid h2
  clear h1 h2 hc
  go_enter Tryz.func43, Tryz.ntmps43
  go_wp2
  go_loopw [5] (fun i wr => ∃ d : Nat, d ≤ c ∧ i = .int .i64 (d : Int) ∧ Below w.heap.size w wr) (fun i _ => c - (intOf i).toNat)
  case atStart => exact ⟨0, Nat.zero_le _, rfl, Below.refl _ _⟩
  case round =>
    obtain ⟨d, hd, rfl, hb⟩ := hrel
    obtain ⟨v, hv⟩ : ∃ v, v = d * s := ⟨_, rfl⟩
    have hvb : v ≤ d * 128 := by rw [hv]; exact Nat.mul_le_mul_left _ hs2
    have hw : IntKind.i64.wrap ((d : Int) * (s : Int)) = (v : Int) := by
      rw [← Int.natCast_mul, ← hv]
      exact IntWalk.i64_in _ (by omega)
    by_cases hlt : d < c
    · have h3 := H2.out d hlt
      rw [← hv] at h3
      have h4 : (v : Int) < (z : Int) := by omega
      clear hv h3
      go_wp2
      exact ⟨⟨d + 1, by omega, by go_num, hb⟩, by simp [intOf]; omega⟩
    · obtain rfl : d = c := by omega
      have h3 := H1.out
      rw [← hv] at h3
      have h4 : ¬ (v : Int) < (z : Int) := by omega
      clear hv h3
      go_wp2
      go_ret
      exact ⟨rfl, hb⟩

set_option maxHeartbeats 1000000 in
set_option maxRecDepth 100000 in
theorem has_any (w : World) (A : Option Addr) (c : Nat) (l : List Int) (x : Int) (h : Pack.Nts w A l) :
    Calls Tryz.prog 44 #[.slice A l.length c, .int .i64 x] w fun r w' => r = .returned (.bool (decide (x ∈ l))) ∧ Below w.heap.size w w' := by
  have H := Lib.hid h
  have hl := h.len
  obtain ⟨M, hM⟩ : ∃ M, M = decide (x ∈ l) := ⟨_, rfl⟩
  rw [← hM]
  have HM := Lib.hid hM
  clear h hM
  go_enter Tryz.func44, Tryz.ntmps44
  go_wp2
  go_loopw [9] (fun i wr => ∃ m : Nat, m ≤ l.length ∧ i = .int .i64 (m : Int) ∧ x ∉ l.take m ∧ Below w.heap.size w wr) (fun i _ => l.length - (intOf i).toNat)
  case atStart => exact ⟨0, Nat.zero_le _, rfl, by simp, Below.refl _ _⟩
  case round =>
    obtain ⟨m, hm, rfl, hx, hb⟩ := hrel
    by_cases hlt : m < l.length
    · obtain ⟨b, o, rfl, hbb, hc0⟩ := H.out.at' m hlt
      have hc0 := (hb.cell (p := ⟨b, o + m, none⟩) hbb).trans hc0
      have hbb := Nat.lt_of_lt_of_le hbb hb.size
      have HTK := Lib.hid (show l.take (m + 1) = l.take m ++ [l[m]] from List.take_succ_eq_append_getElem hlt)
      have HIN := Lib.hid (show l[m] ∈ l from List.getElem_mem hlt)
      generalize l[m] = y at *
      have HX := Lib.hid hx
      by_cases hxy : x = y
      · subst hxy
        have HMT := Lib.hid (show M = true by rw [HM.out]; exact decide_eq_true HIN.out)
        go_wp2
        go_ret
        exact ⟨by rw [HMT.out]; rfl, hb⟩
      · have hxyb : (x == y) = false := beq_eq_false_iff_ne.2 hxy
        have HNE := Lib.hid hxy
        clear hxy
        go_wp2
        refine ⟨⟨m + 1, by omega, by go_num, ?_, hb⟩, by simp [intOf]; omega⟩
        rw [HTK.out]
        simp only [List.mem_append, List.mem_singleton, not_or]
        exact ⟨HX.out, HNE.out⟩
    · obtain rfl : m = l.length := by omega
      rw [List.take_length] at hx
      have HMF := Lib.hid (show M = false by rw [HM.out]; exact decide_eq_false hx)
      go_wp2
      go_ret
      exact ⟨by rw [HMF.out]; rfl, hb⟩
end Clm
end Go.Proofs.YtilolepbfmcbgaaGreatDoor
/- Law 15's wrote and still. -/
namespace Go.Proofs.YtilolepbfmcbgaaGreatDoor
open Go.RowKit Go.MapKept
namespace Vol
section
variable {Q : Nat → Prop} {w : World} {vb a n m s sl bm bk E : Nat} {W : List Nat} {sn : Nat}

theorem below_d (V : World) : Below V.heap.size V V.drew := ⟨rfl, rfl, rfl, Nat.le_refl _, fun _ _ => rfl⟩
theorem below_dn (V : World) (q : Nat) : Below V.heap.size V (V.drewN q) := ⟨rfl, rfl, rfl, Nat.le_refl _, fun _ _ => rfl⟩
theorem lsame_any {A B : Option Addr} {c d : Nat} {l : List Nat} {w : World} (h : Pack.Wds w A l) (g : Pack.Wds w B l) :
    Calls Tryz.prog 142 #[.slice A l.length c, .slice B l.length d] w fun e w' => e = .returned (.bool true) ∧ ∃ n, w' = w.drewN n := by
  have hs := Pack.same_any A B c d l l h g
  rw [decide_eq_true rfl] at hs
  exact hs

end
end Vol
end Go.Proofs.YtilolepbfmcbgaaGreatDoor
/- A map of words. -/
namespace Go.Proofs.YtilolepbfmcbgaaGreatDoor
open Go.RowKit Go.MapKept
namespace Bm
open Pack (Wds Nts)

/-- whether a bit of words is 1 -/
def bitAt (l : List Nat) (i : Nat) : Bool := (l.getD (i / 64) 0).testBit (i % 64)
/-- the blocks that words tell -/
def fo (n : Nat) (l : List Nat) (b : Nat) : Bool := decide (b < n) && bitAt l b
/-- no bit beyond n blocks is 1 -/
def Good (n : Nat) (l : List Nat) : Prop := ∀ i, n ≤ i → i < 64 * l.length → bitAt l i = false

theorem fo_far (n : Nat) (l : List Nat) : ∀ b, n ≤ b → fo n l b = false := fun b hb => by
  unfold fo
  rw [decide_eq_false (by omega)]
  rfl
theorem Good.words {n : Nat} {l : List Nat} (h : Good n l) (hu : ∀ x ∈ l, x < 18446744073709551616) (j : Nat) (hj : j < l.length) : l[j] = wd (fo n l) j := by
  apply is_wd
  intro i
  by_cases hi : i < 64
  · have e : bitAt l (64 * j + i) = l[j].testBit i := by
      unfold bitAt
      rw [show (64 * j + i) / 64 = j by omega, show (64 * j + i) % 64 = i by omega, List.getD_eq_getElem?_getD, List.getElem?_eq_getElem hj, Option.getD_some]
    unfold fo
    by_cases hb : 64 * j + i < n
    · simp [hi, hb, e]
    · have := h (64 * j + i) (by omega) (by omega)
      rw [e] at this
      simp [hb, this]
  · have : l[j].testBit i = false := Nat.testBit_lt_two_pow (Nat.lt_of_lt_of_le (hu _ (List.getElem_mem hj)) (Nat.pow_le_pow_right (n := 2) (i := 64) (by omega) (by omega)))
    simp [hi, this]
theorem Good.wds {n : Nat} {l : List Nat} (h : Good n l) (hu : ∀ x ∈ l, x < 18446744073709551616) : wds (fo n l) l.length = l := by
  apply List.ext_getElem
  · rw [wds_len]
  · intro j h1 h2
    rw [wds_get, ← h.words hu j h2]
/-- the last word's bits beyond n -/
theorem good_last {n K : Nat} {l : List Nat} (hK : K = (n + 63) / 64) (hl : l.length = K) (hr : n % 64 ≠ 0) : Good n l ↔ l.getD (K - 1) 0 / 2 ^ (n % 64) = 0 ∨ ¬ l.getD (K - 1) 0 < 18446744073709551616 ∧ Good n l := by
  constructor
  · intro h
    by_cases hx : l.getD (K - 1) 0 < 18446744073709551616
    · refine .inl (Nat.div_eq_of_lt ?_)
      apply Nat.lt_pow_two_of_testBit
      intro i hi
      by_cases h64 : i < 64
      · have := h (64 * (K - 1) + i) (by omega) (by omega)
        unfold bitAt at this
        rwa [show (64 * (K - 1) + i) / 64 = K - 1 by omega, show (64 * (K - 1) + i) % 64 = i by omega] at this
      · exact Nat.testBit_lt_two_pow (Nat.lt_of_lt_of_le hx (Nat.pow_le_pow_right (n := 2) (i := 64) (by omega) (by omega)))
    · exact .inr ⟨hx, h⟩
  · rintro (h | ⟨_, h⟩)
    · intro i h1 h2
      unfold bitAt
      have e : i / 64 = K - 1 := by omega
      rw [e]
      have hlt : l.getD (K - 1) 0 < 2 ^ (n % 64) := by
        rcases Nat.lt_or_ge (l.getD (K - 1) 0) (2 ^ (n % 64)) with g | g
        · exact g
        · have := Nat.div_pos g (Nat.pow_pos (by omega))
          omega
      exact Nat.testBit_lt_two_pow (Nat.lt_of_lt_of_le hlt (Nat.pow_le_pow_right (n := 2) (by omega) (by omega)))
    · exact h
theorem good_even {n K : Nat} {l : List Nat} (hK : K = (n + 63) / 64) (hl : l.length = K) (hr : n % 64 = 0) : Good n l := fun i h1 h2 => by omega

section
variable {w : World}
/-- whether words are a map's -/
def Ok (n : Int) (l : List Nat) : Prop := 0 ≤ n ∧ n ≤ 65534 ∧ (l.length : Int) = (n + 63) / 64 ∧ Good n.toNat l
/-- what Of answers -/
def OfR (w : World) (n : Nat) (l : List Nat) (e : Ending) (w' : World) : Prop :=
  ∃ p q C : Nat, e = .returned (.tuple #[.pointer (some ⟨p, 0, none⟩), .int .i64 0]) ∧ w.heap.size ≤ p ∧ w.heap.size ≤ q ∧ Mp w' p q l.length C n (fo n l) ∧ Below w.heap.size w w'

end
end Bm
end Go.Proofs.YtilolepbfmcbgaaGreatDoor
/- The document's map of words. -/
namespace Go.Proofs.YtilolepbfmcbgaaGreatDoor
open Go.RowKit Go.MapKept
namespace Bm
open Pack (Wds Nts)

theorem bls_step (f : Nat → Bool) (t : Nat) : bls f (t + 1) = bls f t ++ [.bool (f t)] := by
  unfold bls
  rw [List.range_succ, List.map_append]
  rfl
theorem own_bls {W : World} {B n c q : Nat} {G : Option Addr} {f : Nat → Bool} (h : W.ownsRow B 4 1 (.slice G n c) n (bls f n)) (hq : q < B) : Bls W q G n f :=
  ⟨fun j hj => by
    rcases h.2 with ⟨e, h0⟩ | ⟨g, cap, cur, e, hg, hh, _, _, _, ht⟩
    · omega
    · injection e with e
      subst e
      refine ⟨g, 0, rfl, (Array.getElem?_eq_some_iff.1 hh).1, by omega, ?_⟩
      have := congrArg (·[j]?) ht
      simp only [Nat.mul_one] at this
      rw [List.getElem?_take, if_pos hj, bls_get f n j hj] at this
      unfold World.cell?
      rw [hh, Nat.zero_add]
      simp only
      rw [← Array.getElem?_toList]
      exact this⟩

/-- what the document's Of answers of words of the right count -/
def RefR (w : World) (q n : Nat) (l : List Nat) (e : Ending) (w' : World) : Prop :=
  (Good n l ∧ ∃ (A : Option Addr) (c : Nat), e = .returned (.tuple #[.slice A n c, .bool true]) ∧ Bls w' q A n (fo n l) ∧ Below w.heap.size w w') ∨
  (¬ Good n l ∧ e = .returned (.tuple #[.slice none 0 0, .bool false]) ∧ Below w.heap.size w w')

section
variable {w : World}
theorem bit_and (x r : Nat) (hx : x < 18446744073709551616) : bits BinOp.and IntKind.u64 ((x : Int) / 2 ^ r) 1 = ((if x.testBit r then 1 else 0 : Nat) : Int) := by
  rw [show (x : Int) / 2 ^ r = ((x / 2 ^ r : Nat) : Int) by simp]
  have hl : x / 2 ^ r < 18446744073709551616 := Nat.lt_of_le_of_lt (Nat.div_le_self _ _) hx
  have := u64_and_nat (x / 2 ^ r) 1 hl (by decide)
  rw [show (1 : Int) = ((1 : Nat) : Int) from rfl, this, nat_mask1, Nat.testBit_eq_decide_div_mod_eq]
  have h2 : x / 2 ^ r % 2 = 0 ∨ x / 2 ^ r % 2 = 1 := by omega
  rcases h2 with h | h <;> simp [h]

end
end Bm
end Go.Proofs.YtilolepbfmcbgaaGreatDoor
/- The document's inode, slot, map, record and block of a volume's words. -/
namespace Go.Proofs.YtilolepbfmcbgaaGreatDoor
open Go.RowKit Go.MapKept
namespace Vol
/-- a part of a row of words -/
theorem wds_part {w : World} {g f k : Nat} {W : List Nat} (h : Pack.Wds w (some ⟨g, 0, none⟩) W) (hf : f + k ≤ W.length) : Pack.Wds w (some ⟨g, f, none⟩) (rdw W f k) := by
  refine ⟨rdw_u64 h.u64 f k, by rw [rdw_len]; have := h.len; omega, fun j hj => ?_⟩
  rw [rdw_len] at hj
  obtain ⟨b, o, e, hb, hc⟩ := h.at' (f + j) (by omega)
  injection e with e
  injection e with e1 e2
  subst e1 e2
  refine ⟨g, f, rfl, hb, ?_⟩
  rw [rdw_get, List.getElem?_eq_getElem (by omega), Option.getD_some]
  rw [Nat.zero_add] at hc
  exact hc

section
variable {w : World} {n m s sl bm bk E : Nat} {W : List Nat}
set_option maxHeartbeats 2000000 in
set_option maxRecDepth 100000 in
theorem rinode_no (w : World) (v : Value) (i : Int) (hi : i < 0 ∨ (m : Int) ≤ i) :
    Calls Tryz.prog 40 #[.agg (dv n m s sl bm bk E v), .int .i64 i] w fun r w' => r = .returned (.tuple #[.agg #[.int .i64 0, .int .i64 (-1), .int .i64 0], .bool false]) ∧ Below w.heap.size w w' := by
  have hb0 := (Below.refl w.heap.size w).alloc (Nat.le_refl _) (.cells (dv n m s sl bm bk E v) 30)
  have HX := Lib.hid (hb_new (w.alloc (.cells (dv n m s sl bm bk E v) 30)) #[.int .i64 0, .int .i64 (-1), .int .i64 0] 95)
  rw [World.size_alloc] at HX
  have HB := Lib.hid (hb0.alloc hb0.size (.cells #[.int .i64 0, .int .i64 (-1), .int .i64 0] 95))
  clear hb0
  unfold dv at HX HB ⊢
  have c0 := HX.out.cell 0
  have c1 := HX.out.cell 1
  have c2 := HX.out.cell 2
  go_enter Tryz.func40, Tryz.ntmps40
  rcases hi with hi | hi
  · go_wp2_with fail
    refine bodyPost_ret (v := .tuple #[.agg #[.int .i64 0, .int .i64 (-1), .int .i64 0], .bool false]) ?_ rfl ⟨rfl, HB.out⟩
    simp [results, Tryz.results40, go_sem, c0, c1, c2]
  · have hd2 : decide ((m : Int) ≤ i) = true := decide_eq_true hi
    go_wp2_with fail
    all_goals
      refine bodyPost_ret (v := .tuple #[.agg #[.int .i64 0, .int .i64 (-1), .int .i64 0], .bool false]) ?_ rfl ⟨rfl, HB.out⟩
      simp [results, Tryz.results40, go_sem, c0, c1, c2]

set_option maxHeartbeats 2000000 in
set_option maxRecDepth 100000 in
theorem rinode_yes (w : World) (g gc : Nat) (hW : Pack.Wds w (some ⟨g, 0, none⟩) W) (hWE : W.length = E) (hc : E ≤ gc) (i : Nat) (hi : i < m) (hin : 16 + 8 * i + 8 ≤ E) (hE : E ≤ 1000) :
    Calls Tryz.prog 40 #[.agg (dv n m s sl bm bk E (.slice (some ⟨g, 0, none⟩) E gc)), .int .i64 (i : Int)] w fun r w' => r = .returned (Ino.rv (Ino.dec (rdw W (16 + 8 * i) 8))) ∧ Below w.heap.size w w' := by
  have HX := Lib.hid (hb_new w (dv n m s sl bm bk E (.slice (some ⟨g, 0, none⟩) E gc)) 30)
  have HB0 := Lib.hid ((Below.refl w.heap.size w).alloc (Nat.le_refl _) (.cells (dv n m s sl bm bk E (.slice (some ⟨g, 0, none⟩) E gc)) 30))
  have HW := Lib.hid hW
  obtain ⟨F, hF⟩ : ∃ F, F = 16 + 8 * i := ⟨_, rfl⟩
  obtain ⟨G, hG⟩ : ∃ G, G = F + 8 := ⟨_, rfl⟩
  have HD := Lib.hid (fun (w' : World) (cp : Nat) (hb : Below w.heap.size w w') => show Calls Tryz.prog 83 #[.slice (some ⟨g, F, none⟩) 8 cp] w' _ from by
    have hd := Ino.refDecode_any (w := w') (some ⟨g, F, none⟩) cp (rdw W F 8) (wds_part (hW.keep hb) (by omega))
    rw [rdw_len] at hd
    exact hd)
  rw [← hF]
  obtain ⟨g0, g1, g2, hg⟩ := gv_ino (Ino.dec (rdw W F 8))
  unfold Ino.rv at HD ⊢
  rw [hg] at HD ⊢
  generalize (Ino.dec (rdw W F 8)).isSome = is at *
  clear hg
  have hsum : (16 : Int) + 8 * (i : Int) = (F : Int) := by omega
  have hsum2 : (F : Int) + 8 = (G : Int) := by omega
  have hi8 : i ≤ 200 := by omega
  have hFb : F ≤ 1000 ∧ G ≤ 1000 := by omega
  have hGc : G ≤ gc := by omega
  have hFG : F ≤ G := by omega
  have hd1 : decide ((i : Int) < 0) = false := decide_eq_false (by omega)
  have hd2 : decide ((m : Int) ≤ (i : Int)) = false := decide_eq_false (by omega)
  have hGF : G - F = 8 := by omega
  have hd3 : decide (m ≤ i) = false := decide_eq_false (by omega)
  clear hF hG hi
  unfold dv at HX HB0 ⊢
  go_enter Tryz.func40, Tryz.ntmps40
  obtain ⟨w0, hw0⟩ : ∃ w0, w0 = w.alloc (.cells #[.int .i64 (n : Int), .int .i64 (m : Int), .int .i64 (s : Int), .int .i64 16, .int .i64 (sl : Int), .int .i64 (bm : Int), .int .i64 (bk : Int), .int .i64 (E : Int), .slice (some ⟨g, 0, none⟩) E gc] 30) := ⟨_, rfl⟩
  rw [← hw0] at HX HB0
  have hz0 : w0.heap.size = w.heap.size + 1 := by rw [hw0, World.size_alloc]
  have hb1 := HB0.out.alloc HB0.out.size (.cells #[.int .i64 0, .int .i64 0, .int .i64 0] 95)
  have hx1 := hb_new w0 #[.int .i64 0, .int .i64 0, .int .i64 0] 95
  rw [hz0] at hx1
  have HB1 := Lib.hid hb1
  have HX1 := Lib.hid hx1
  clear hb1 hx1
  go_wp2_with fail
  rw [← hw0]
  clear hw0
  generalize w0.alloc (.cells #[.int .i64 0, .int .i64 0, .int .i64 0] 95) = w1 at *
  refine (HD.out _ _ HB1.out).mono ?_
  rintro r w2 ⟨rfl, hb⟩
  have HB2 := Lib.hid (HB1.out.trans (hb.mono HB1.out.size))
  have HX2 := Lib.hid (HX1.out.keep hb)
  clear hb
  have c0 := HX2.out.cell 0
  have c1 := HX2.out.cell 1
  have c2 := HX2.out.cell 2
  have f0 := HX2.out.frozen 0
  have f1 := HX2.out.frozen 1
  have f2 := HX2.out.frozen 2
  have hl2 := HX2.out.lt
  go_wp2
  refine bodyPost_ret (v := .tuple #[.agg #[.int .i64 g0, .int .i64 g1, .int .i64 g2], .bool is]) ?_ rfl ⟨rfl, ?_⟩
  · simp [results, Tryz.results40, go_sem, c0, c1, c2]
  · exact ((HB2.out.setCell (Nat.le_succ _) _).setCell (Nat.le_succ _) _).setCell (Nat.le_succ _) _
set_option maxHeartbeats 2000000 in
set_option maxRecDepth 100000 in
theorem rslot_no (w : World) (v : Value) (i : Int) (hi : i < 0 ∨ (n : Int) ≤ i) :
    Calls Tryz.prog 84 #[.agg (dv n m s sl bm bk E v), .int .i64 i] w fun r w' => r = .returned (.tuple #[.agg #[.int .i64 0, .int .i64 0, .int .i64 0], .bool false]) ∧ Below w.heap.size w w' := by
  have hb0 := (Below.refl w.heap.size w).alloc (Nat.le_refl _) (.cells (dv n m s sl bm bk E v) 30)
  have HX := Lib.hid (hb_new (w.alloc (.cells (dv n m s sl bm bk E v) 30)) #[.int .i64 0, .int .i64 0, .int .i64 0] 152)
  rw [World.size_alloc] at HX
  have HB := Lib.hid (hb0.alloc hb0.size (.cells #[.int .i64 0, .int .i64 0, .int .i64 0] 152))
  clear hb0
  unfold dv at HX HB ⊢
  have c0 := HX.out.cell 0
  have c1 := HX.out.cell 1
  have c2 := HX.out.cell 2
  go_enter Tryz.func84, Tryz.ntmps84
  rcases hi with hi | hi
  · go_wp2_with fail
    refine bodyPost_ret (v := .tuple #[.agg #[.int .i64 0, .int .i64 0, .int .i64 0], .bool false]) ?_ rfl ⟨rfl, HB.out⟩
    simp [results, Tryz.results84, go_sem, c0, c1, c2]
  · have hd2 : decide ((n : Int) ≤ i) = true := decide_eq_true hi
    go_wp2_with fail
    all_goals
      refine bodyPost_ret (v := .tuple #[.agg #[.int .i64 0, .int .i64 0, .int .i64 0], .bool false]) ?_ rfl ⟨rfl, HB.out⟩
      simp [results, Tryz.results84, go_sem, c0, c1, c2]

set_option maxHeartbeats 2000000 in
set_option maxRecDepth 100000 in
theorem rslot_yes (w : World) (g gc : Nat) (hW : Pack.Wds w (some ⟨g, 0, none⟩) W) (hWE : W.length = E) (i F : Nat) (hi : i < n) (hF : F = sl + i) (hin : F < E) (hE : E ≤ 1000) :
    Calls Tryz.prog 84 #[.agg (dv n m s sl bm bk E (.slice (some ⟨g, 0, none⟩) E gc)), .int .i64 (i : Int)] w fun r w' => r = .returned (Slo.rv (Slo.dec (W[F]?.getD 0))) ∧ Below w.heap.size w w' := by
  have hb0 := (Below.refl w.heap.size w).alloc (Nat.le_refl _) (.cells (dv n m s sl bm bk E (.slice (some ⟨g, 0, none⟩) E gc)) 30)
  have HX := Lib.hid (hb_new w (dv n m s sl bm bk E (.slice (some ⟨g, 0, none⟩) E gc)) 30)
  have HB0 := Lib.hid hb0
  have HW := Lib.hid hW
  clear hb0
  have hcell := fun (w' : World) (hb : Below w.heap.size w w') => (HW.out.keep hb).at' F (by omega)
  have hx : W[F]?.getD 0 < 18446744073709551616 := at_lt hW.u64 F
  rw [List.getElem?_eq_getElem (by omega), Option.getD_some] at hx ⊢
  generalize W[F] = x at *
  have HD := Lib.hid (fun w => Slo.refDecode_any w x hx)
  obtain ⟨g0, g1, g2, hg⟩ := gv_three (Slo.dec x)
  unfold Slo.rv at HD ⊢
  rw [hg] at HD ⊢
  generalize (Slo.dec x).isSome = is at *
  have hsum : (sl : Int) + (i : Int) = (F : Int) := by omega
  have hd1 : decide ((i : Int) < 0) = false := decide_eq_false (by omega)
  have hd2 : decide ((n : Int) ≤ (i : Int)) = false := decide_eq_false (by omega)
  have hd3 : decide (n ≤ i) = false := decide_eq_false (by omega)
  have hF0 : (0 : Int) ≤ (F : Int) := by omega
  have hF1 : (F : Int) < (E : Int) := by omega
  have hFE : sl ≤ 1000 ∧ i ≤ 1000 := by omega
  clear hg hF hi hW
  unfold dv at HX HB0 ⊢
  go_enter Tryz.func84, Tryz.ntmps84
  obtain ⟨w0, hw0⟩ : ∃ w0, w0 = w.alloc (.cells #[.int .i64 (n : Int), .int .i64 (m : Int), .int .i64 (s : Int), .int .i64 16, .int .i64 (sl : Int), .int .i64 (bm : Int), .int .i64 (bk : Int), .int .i64 (E : Int), .slice (some ⟨g, 0, none⟩) E gc] 30) := ⟨_, rfl⟩
  rw [← hw0] at HX HB0
  have hz0 : w0.heap.size = w.heap.size + 1 := by rw [hw0, World.size_alloc]
  have hb1 := HB0.out.alloc HB0.out.size (.cells #[.int .i64 0, .int .i64 0, .int .i64 0] 152)
  have hx1 := hb_new w0 #[.int .i64 0, .int .i64 0, .int .i64 0] 152
  rw [hz0] at hx1
  obtain ⟨_, _, he, _, hcl⟩ := hcell _ hb1
  injection he with he
  injection he with he1 he2
  subst he1 he2
  rw [Nat.zero_add] at hcl
  have HB1 := Lib.hid hb1
  have HX1 := Lib.hid hx1
  clear hb1 hx1 hcell
  rw [hw0] at hcl
  go_wp2_with fail
  rw [← hw0] at hcl
  rw [← hw0]
  clear hw0
  generalize w0.alloc (.cells #[.int .i64 0, .int .i64 0, .int .i64 0] 152) = w1 at *
  refine (HD.out _).mono ?_
  rintro r w2 ⟨rfl, hb⟩
  have HB2 := Lib.hid (HB1.out.trans (hb.mono HB1.out.size))
  have HX2 := Lib.hid (HX1.out.keep hb)
  clear hb hcl
  have c0 := HX2.out.cell 0
  have c1 := HX2.out.cell 1
  have c2 := HX2.out.cell 2
  have f0 := HX2.out.frozen 0
  have f1 := HX2.out.frozen 1
  have f2 := HX2.out.frozen 2
  have hl2 := HX2.out.lt
  go_wp2
  refine bodyPost_ret (v := .tuple #[.agg #[.int .i64 g0, .int .i64 g1, .int .i64 g2], .bool is]) ?_ rfl ⟨rfl, ?_⟩
  · simp [results, Tryz.results84, go_sem, c0, c1, c2]
  · exact ((HB2.out.setCell (Nat.le_succ _) _).setCell (Nat.le_succ _) _).setCell (Nat.le_succ _) _

theorem gv_rrec (q : Option (Nat × Nat × Nat × Nat)) : ∃ x y z t : Int, Rec.gv q = .agg #[.int .i64 x, .int .i64 y, .int .i64 z, .int .i64 t] := by
  cases q with
  | none => exact ⟨0, 0, 0, 0, rfl⟩
  | some t => exact ⟨_, _, _, _, rfl⟩
/-- what the document's map of words is -/
def RfP (n : Nat) (l : List Nat) (A : Option Addr) (t : Nat) (is : Bool) (w' : World) : Prop :=
  (Bm.Good n l ∧ is = true ∧ t = n ∧ ∃ q, Bm.Bls w' q A n (Bm.fo n l)) ∨ (¬ Bm.Good n l ∧ is = false)
end
end Vol
end Go.Proofs.YtilolepbfmcbgaaGreatDoor
/- The document's chain: in, Read, Blocks. -/
namespace Go.Proofs.YtilolepbfmcbgaaGreatDoor
open Go.RowKit Go.MapKept
namespace Chn
open Vol (Vo Up Kq Hb hb_new hb_grown hb_apart Ov Pl gn gs dv rawW rawW_len)

set_option maxHeartbeats 1000000 in
set_option maxRecDepth 100000 in
theorem rin_any (w : World) (A : Option Addr) (c : Nat) (l : List Int) (x : Int) (h : Pack.Nts w A l) :
    Calls Tryz.prog 85 #[.slice A l.length c, .int .i64 x] w fun r w' => r = .returned (.bool (decide (x ∈ l))) ∧ Below w.heap.size w w' := by
  have H := Lib.hid h
  have hl := h.len
  obtain ⟨M, hM⟩ : ∃ M, M = decide (x ∈ l) := ⟨_, rfl⟩
  rw [← hM]
  have HM := Lib.hid hM
  clear h hM
  go_enter Tryz.func85, Tryz.ntmps85
  go_wp2
  go_loopw [9] (fun i wr => ∃ m : Nat, m ≤ l.length ∧ i = .int .i64 (m : Int) ∧ x ∉ l.take m ∧ Below w.heap.size w wr) (fun i _ => l.length - (intOf i).toNat)
  case atStart => exact ⟨0, Nat.zero_le _, rfl, by simp, Below.refl _ _⟩
  case round =>
    obtain ⟨m, hm, rfl, hx, hb⟩ := hrel
    by_cases hlt : m < l.length
    · obtain ⟨b, o, rfl, hbb, hc0⟩ := H.out.at' m hlt
      have hc0 := (hb.cell (p := ⟨b, o + m, none⟩) hbb).trans hc0
      have hbb := Nat.lt_of_lt_of_le hbb hb.size
      have HTK := Lib.hid (show l.take (m + 1) = l.take m ++ [l[m]] from List.take_succ_eq_append_getElem hlt)
      have HIN := Lib.hid (show l[m] ∈ l from List.getElem_mem hlt)
      generalize l[m] = y at *
      have HX := Lib.hid hx
      by_cases hxy : x = y
      · subst hxy
        have HMT := Lib.hid (show M = true by rw [HM.out]; exact decide_eq_true HIN.out)
        go_wp2
        go_ret
        exact ⟨by rw [HMT.out]; rfl, hb⟩
      · have hxyb : (x == y) = false := beq_eq_false_iff_ne.2 hxy
        have HNE := Lib.hid hxy
        clear hxy
        go_wp2
        refine ⟨⟨m + 1, by omega, by go_num, ?_, hb⟩, by simp [intOf]; omega⟩
        rw [HTK.out]
        simp only [List.mem_append, List.mem_singleton, not_or]
        exact ⟨HX.out, HNE.out⟩
    · obtain rfl : m = l.length := by omega
      rw [List.take_length] at hx
      have HMF := Lib.hid (show M = false by rw [HM.out]; exact decide_eq_false hx)
      go_wp2
      go_ret
      exact ⟨by rw [HMF.out]; rfl, hb⟩

theorem rpart_info : (Tryz.prog.info? 152).map (fun i => (i.zero, i.size, i.bytes)) = some (some (.agg #[.int .i64 0, .int .i64 0, .int .i64 0]), 3, 24) := by kernel_rfl
/-- the boxes and rows of the document's Read under way -/
structure Rq (w : World) (D : Array Value) (l : List Pt) (A : Option Addr) (c : Nat) (B : Option Addr) (d : Nat) (wr : World) : Prop where
  vol : Hb wr w.heap.size D 30
  res : Hb wr (w.heap.size + 1) #[.slice none 0 0, .slice none 0 0] 100
  box : Hb wr (w.heap.size + 1 + 1) #[.slice A l.length c, .slice B l.length d] 100
  ints : wr.ownsRow w.heap.size 3 1 (.slice A l.length c) l.length (Pack.i64s (slots l))
  prts : wr.ownsRow w.heap.size 152 3 (.slice B l.length d) l.length (pcells l)
  below : Below w.heap.size w wr
theorem Rq.keep {w w1 w2 : World} {D : Array Value} {l : List Pt} {A B : Option Addr} {c d : Nat} (h : Rq w D l A c B d w1) (hb : Below w1.heap.size w1 w2) : Rq w D l A c B d w2 :=
  ⟨h.vol.keep hb, h.res.keep hb, h.box.keep hb, own_keep3 h.ints hb, own_keep3 h.prts hb, h.below.trans (hb.mono h.below.size)⟩
theorem nts_of {w w1 : World} {D : Array Value} {l : List Pt} {A B : Option Addr} {c d n : Nat} (h : Rq w D l A c B d w1) (hl : ∀ p ∈ l, p.s < n) (hn : n ≤ 1000000) (hll : l.length ≤ 1000000) : Pack.Nts w1 A (slots l) :=
  Pack.own_nts h.ints (fun x hx => by
    obtain ⟨p, hp, rfl⟩ := List.mem_map.1 hx
    have := hl p hp
    omega) (by omega)
/-- what the document's Read leaves -/
def RrTo (n : Nat) (f : Nat → Option (Nat × Nat × Nat)) (h : Int) (w : World) (r : Ending) (w' : World) : Prop :=
  match rd (pat f n) n h with
  | none => r = .returned (.tuple #[.agg #[.slice none 0 0, .slice none 0 0], .bool false]) ∧ Below w.heap.size w w'
  | some l => ∃ (A : Option Addr) (c : Nat) (B : Option Addr) (d : Nat), r = .returned (.tuple #[.agg #[.slice A l.length c, .slice B l.length d], .bool true]) ∧ Pack.Nts w' A (slots l) ∧ Prt w' B l ∧ l.length ≤ c ∧ l.length ≤ d ∧ Below w.heap.size w w'
theorem RrTo.none {n : Nat} {f : Nat → Option (Nat × Nat × Nat)} {h : Int} {w w' : World} {r : Ending} (hn : rd (pat f n) n h = Option.none) (hr : r = .returned (.tuple #[.agg #[.slice Option.none 0 0, .slice Option.none 0 0], .bool false])) (hb : Below w.heap.size w w') : RrTo n f h w r w' := by
  unfold RrTo
  rw [hn]
  exact ⟨hr, hb⟩
theorem RrTo.some {n : Nat} {f : Nat → Option (Nat × Nat × Nat)} {h : Int} {w w' : World} {r : Ending} {l : List Pt} {A B : Option Addr} {c d : Nat} (hn : rd (pat f n) n h = Option.some l) (hr : r = .returned (.tuple #[.agg #[.slice A l.length c, .slice B l.length d], .bool true])) (h1 : Pack.Nts w' A (slots l)) (h2 : Prt w' B l) (h3 : l.length ≤ c) (h4 : l.length ≤ d) (hb : Below w.heap.size w w') : RrTo n f h w r w' := by
  unfold RrTo
  rw [hn]
  exact ⟨A, c, B, d, hr, h1, h2, h3, h4, hb⟩
/-- what the document's Read leaves, in new memory -/
def RrN (n : Nat) (f : Nat → Option (Nat × Nat × Nat)) (h : Int) (w : World) (r : Ending) (w' : World) : Prop :=
  match rd (pat f n) n h with
  | none => r = .returned (.tuple #[.agg #[.slice none 0 0, .slice none 0 0], .bool false]) ∧ Below w.heap.size w w'
  | some l => ∃ (A : Option Addr) (c : Nat) (B : Option Addr) (d : Nat), r = .returned (.tuple #[.agg #[.slice A l.length c, .slice B l.length d], .bool true]) ∧ Pack.Nts w' A (slots l) ∧ Prt w' B l ∧ (l.length ≤ c ∧ l.length ≤ d) ∧ (New w.heap.size A ∧ New w.heap.size B) ∧ Below w.heap.size w w'
theorem RrN.none {n : Nat} {f : Nat → Option (Nat × Nat × Nat)} {h : Int} {w w' : World} {r : Ending} (hn : rd (pat f n) n h = Option.none) (hr : r = .returned (.tuple #[.agg #[.slice Option.none 0 0, .slice Option.none 0 0], .bool false])) (hb : Below w.heap.size w w') : RrN n f h w r w' := by
  unfold RrN
  rw [hn]
  exact ⟨hr, hb⟩
theorem RrN.some {n : Nat} {f : Nat → Option (Nat × Nat × Nat)} {h : Int} {w w' : World} {r : Ending} {l : List Pt} {A B : Option Addr} {c d : Nat} (hn : rd (pat f n) n h = Option.some l) (hr : r = .returned (.tuple #[.agg #[.slice A l.length c, .slice B l.length d], .bool true])) (h1 : Pack.Nts w' A (slots l)) (h2 : Prt w' B l) (h3 : l.length ≤ c ∧ l.length ≤ d) (h4 : New w.heap.size A ∧ New w.heap.size B) (hb : Below w.heap.size w w') : RrN n f h w r w' := by
  unfold RrN
  rw [hn]
  exact ⟨A, c, B, d, hr, h1, h2, h3, h4, hb⟩
theorem mem_slots {l : List Pt} {i : Nat} : (i : Int) ∈ slots l ↔ ∃ p ∈ l, p.s = i := by
  unfold slots
  rw [List.mem_map]
  constructor
  · rintro ⟨p, hp, e⟩; exact ⟨p, hp, by omega⟩
  · rintro ⟨p, hp, e⟩; exact ⟨p, hp, by omega⟩

set_option maxHeartbeats 4000000 in
set_option maxRecDepth 100000 in
theorem rread_new (w : World) {n m s sl bm bk E g gc : Nat} {W : List Nat} (hpl : Pl n m s sl bm bk E) (hW : Pack.Wds w (some ⟨g, 0, none⟩) W) (hWE : W.length = E) (hd : Int) :
    Calls Tryz.prog 41 #[.agg (dv n m s sl bm bk E (.slice (some ⟨g, 0, none⟩) E gc)), .int .i64 hd] w (RrN n (fw W sl) hd w) := by
  have HPL := Lib.hid hpl
  have HS15 := Lib.hid (fun w' (hb : Below w.heap.size w w') (i : Nat) (hi : i < n) => Vol.rslot_yes (m := m) (s := s) (sl := sl) (bm := bm) (bk := bk) w' g gc (hW.keep hb) hWE i (sl + i) hi rfl (by have := hpl.at; omega) (by have := hpl.at; omega))
  have hn20 := hpl.n20
  obtain ⟨f, hf⟩ : ∃ f, f = fw W sl := ⟨_, rfl⟩
  have HF := Lib.hid hf
  rw [← hf]
  clear hf hW hWE hpl
  go_enter Tryz.func41, Tryz.ntmps41
  unfold dv
  go_wp2_with fail
  have HR := Lib.hid (show Rq w (dv n m s sl bm bk E (.slice (some ⟨g, 0, none⟩) E gc)) [] none 0 none 0 (((w.alloc (.cells (dv n m s sl bm bk E (.slice (some ⟨g, 0, none⟩) E gc)) 30)).alloc (.cells #[.slice none 0 0, .slice none 0 0] 100)).alloc (.cells #[.slice none 0 0, .slice none 0 0] 100)) from by
    have h1 := hb_new w (dv n m s sl bm bk E (.slice (some ⟨g, 0, none⟩) E gc)) 30
    have h2 := hb_new (w.alloc (.cells (dv n m s sl bm bk E (.slice (some ⟨g, 0, none⟩) E gc)) 30)) #[.slice none 0 0, .slice none 0 0] 100
    have h3 := hb_new ((w.alloc (.cells (dv n m s sl bm bk E (.slice (some ⟨g, 0, none⟩) E gc)) 30)).alloc (.cells #[.slice none 0 0, .slice none 0 0] 100)) #[.slice none 0 0, .slice none 0 0] 100
    simp only [World.size_alloc] at h2 h3
    have k := fun (W : World) o => (Below.refl W.heap.size W).alloc (Nat.le_refl _) o
    exact ⟨(h1.keep (k _ _)).keep (k _ _), h2.keep (k _ _), h3, World.ownsRow_nil .., World.ownsRow_nil .., ((k w _).trans ((k _ _).mono (by simp))).trans ((k _ _).mono (by simp; omega))⟩)
  unfold dv at HR
  go_loopw [7] (fun s' wr => ∃ (sv : Int) (l : List Pt) (A : Option Addr) (c : Nat) (B : Option Addr) (d : Nat), s' = .int .i64 sv ∧ Path (pat f n) hd l sv ∧ (l.map Pt.s).Nodup ∧ Rq w #[.int .i64 (n : Int), .int .i64 (m : Int), .int .i64 (s : Int), .int .i64 16, .int .i64 (sl : Int), .int .i64 (bm : Int), .int .i64 (bk : Int), .int .i64 (E : Int), .slice (some ⟨g, 0, none⟩) E gc] l A c B d wr) (fun _ wr => n - ((wr.cell? ⟨w.heap.size + 1 + 1, 0, none⟩).map lenOf).getD 0)
  case atStart => exact ⟨hd, [], none, 0, none, 0, rfl, rfl, by simp, HR.out⟩
  case round =>
    obtain ⟨sv, l, A, c, B, d, rfl, hpath, hnd, hrt⟩ := hrel
    have HRT := Lib.hid hrt
    have HPT := Lib.hid hpath
    have HND := Lib.hid hnd
    have HMEM := Lib.hid (path_mem hpath)
    have hln : l.length ≤ n := few_slots (fun p hp => (path_mem hpath p hp).1) hnd
    have b0 := hrt.box.cell 0
    have b1 := hrt.box.cell 1
    have bl := hrt.box.lt
    have bf0 := hrt.box.frozen 0
    have bf1 := hrt.box.frozen 1
    have rl := hrt.res.lt
    have r0 := hrt.res.cell 0
    have r1 := hrt.res.cell 1
    have rf0 := hrt.res.frozen 0
    have rf1 := hrt.res.frozen 1
    have vl := hrt.vol.lt
    have v0 := hrt.vol.cell 0
    have v1 := hrt.vol.cell 1
    have v2 := hrt.vol.cell 2
    have v3 := hrt.vol.cell 3
    have v4 := hrt.vol.cell 4
    have v5 := hrt.vol.cell 5
    have v6 := hrt.vol.cell 6
    have v7 := hrt.vol.cell 7
    have v8 := hrt.vol.cell 8
    clear hrt hpath hnd HR
    by_cases hs : sv = -1
    · subst hs
      clear v0 v1 v2 v3 v4 v5 v6 v7 v8 vl
      go_wp2
      have hR := HRT.out
      have hB0 := hR.res.set 0 (.slice A l.length c)
      have i1 := own_far (i := 0) hR.ints hR.res (by decide) (.slice A l.length c)
      have p1 := own_far (i := 0) hR.prts hR.res (by decide) (.slice A l.length c)
      have i2 := own_far (i := 1) i1 hB0 (by decide) (.slice B l.length d)
      have p2 := own_far (i := 1) p1 hB0 (by decide) (.slice B l.length d)
      have hmem := HMEM.out
      refine bodyPost_ret (v := .tuple #[.agg #[.slice A l.length c, .slice B l.length d], .bool true]) ?_ rfl (RrN.some (rd_yes HPT.out) rfl (Pack.own_nts i2 (fun x hx => ?_) (by omega)) (own_prt p2).1 ⟨Pack.row_cap i2, row_cap3 p2⟩ ⟨own_new i2, own_new p2⟩ ?_)
      · simp [results, Tryz.results41, go_sem, r0, r1]
      · obtain ⟨p, hp, rfl⟩ := List.mem_map.1 hx
        have := (hmem p hp).1
        omega
      · exact (hR.below.setCell (p := ⟨w.heap.size + 1, 0, none⟩) (Nat.le_succ _) _).setCell (p := ⟨w.heap.size + 1, 1, none⟩) (Nat.le_succ _) _
    · have hsb : (sv != -1) = true := by simp [hs]
      by_cases hin : 0 ≤ sv ∧ sv < (n : Int)
      · obtain ⟨i, rfl⟩ := Int.eq_ofNat_of_zero_le hin.1
        have hil : i < n := by omega
        have hsl := fun w' (hb : Below w.heap.size w w') => HS15.out w' hb i hil
        have HFW := Lib.hid (show f i = Slo.dec (W[sl + i]?.getD 0) by rw [HF.out]; rfl)
        generalize Slo.dec (W[sl + i]?.getD 0) = dc at *
        unfold Slo.rv at hsl
        cases dc with
        | none =>
          have HN := Lib.hid (rd_stop (n := n) HPT.out hs (pat_none HFW.out))
          simp only [Slo.gv, Option.isSome_none, dv] at hsl
          have HS := Lib.hid hsl
          clear hsl
          go_wp2_with fail
          clear v0 v1 v2 v3 v4 v5 v6 v7 v8
          refine (HS.out _ HRT.out.below).mono ?_
          rintro r w2 ⟨rfl, hb2⟩
          have HRT2 := Lib.hid ((HRT.out.keep hb2).keep ((Below.refl w2.heap.size w2).alloc (Nat.le_refl _) (.cells #[.int .i64 0, .int .i64 0, .int .i64 0] 152)))
          have HP2 := Lib.hid (hb_new w2 #[.int .i64 0, .int .i64 0, .int .i64 0] 152)
          clear hb2 HS r0 r1 rl rf0 rf1 b0 b1 bl bf0 bf1 vl
          have r20 := HRT2.out.res.cell 0
          have r21 := HRT2.out.res.cell 1
          have rl2 := HRT2.out.res.lt
          have rf20 := HRT2.out.res.frozen 0
          have rf21 := HRT2.out.res.frozen 1
          go_wp2
          generalize w2.alloc (.cells #[.int .i64 0, .int .i64 0, .int .i64 0] 152) = w3 at *
          refine bodyPost_ret (v := .tuple #[.agg #[.slice none 0 0, .slice none 0 0], .bool false]) ?_ rfl (RrN.none HN.out rfl ?_)
          · simp [results, Tryz.results41, go_sem, r20, r21]
          · exact (HRT2.out.below.setCell (p := ⟨w.heap.size + 1, 0, none⟩) (Nat.le_succ _) _).setCell (p := ⟨w.heap.size + 1, 1, none⟩) (Nat.le_succ _) _
        | some t =>
          obtain ⟨x, y, q⟩ := t
          simp only [Slo.gv, Option.isSome_some, dv] at hsl
          have HS := Lib.hid hsl
          have hmy := Slo.may_lt (Slo.dec_some (by rw [← HFW.out, HF.out]; rfl : Slo.dec (W[sl + i]?.getD 0) = some (x, y, q))).1
          obtain ⟨z, hz⟩ : ∃ z, z = Slo.nx q := ⟨_, rfl⟩
          have HZ := Lib.hid hz
          rw [← hz] at HS
          clear hsl hz
          by_cases hmi : (i : Int) ∈ slots l
          · obtain ⟨p, hp, hpi⟩ := mem_slots.1 hmi
            have HN := Lib.hid (rd_back HPT.out hp (by rw [hpi]) n)
            clear hp hpi
            go_wp2_with fail
            clear v0 v1 v2 v3 v4 v5 v6 v7 v8
            refine (HS.out _ HRT.out.below).mono ?_
            rintro r w2 ⟨rfl, hb2⟩
            have HRT2 := Lib.hid ((HRT.out.keep hb2).keep ((Below.refl w2.heap.size w2).alloc (Nat.le_refl _) (.cells #[.int .i64 (x : Int), .int .i64 (y : Int), .int .i64 z] 152)))
            have HP2 := Lib.hid (hb_new w2 #[.int .i64 (x : Int), .int .i64 (y : Int), .int .i64 z] 152)
            clear hb2 HS r0 r1 rl rf0 rf1 b0 b1 bl bf0 bf1 vl
            have b02 := HRT2.out.box.cell 0
            have bl2 := HRT2.out.box.lt
            have HIN := Lib.hid (rin_any _ A c (slots l) (i : Int) (nts_of HRT2.out (fun p hp => (HMEM.out p hp).1) (by omega) (by omega)))
            rw [slots_len, decide_eq_true hmi] at HIN
            go_wp2_with fail
            generalize hw3 : w2.alloc (.cells #[.int .i64 (x : Int), .int .i64 (y : Int), .int .i64 z] 152) = w3 at *
            clear hw3
            generalize w2.heap.size = pb at *
            refine HIN.out.mono ?_
            rintro r w5 ⟨rfl, hb5⟩
            have HRT5 := Lib.hid (HRT2.out.keep hb5)
            have HP5 := Lib.hid (HP2.out.keep hb5)
            clear hb5 HRT2 HP2 HIN b02 bl2
            have r50 := HRT5.out.res.cell 0
            have r51 := HRT5.out.res.cell 1
            have rl5 := HRT5.out.res.lt
            have rf50 := HRT5.out.res.frozen 0
            have rf51 := HRT5.out.res.frozen 1
            go_wp2
            refine bodyPost_ret (v := .tuple #[.agg #[.slice none 0 0, .slice none 0 0], .bool false]) ?_ rfl (RrN.none HN.out rfl ?_)
            · simp [results, Tryz.results41, go_sem, r50, r51]
            · exact (HRT5.out.below.setCell (p := ⟨w.heap.size + 1, 0, none⟩) (Nat.le_succ _) _).setCell (p := ⟨w.heap.size + 1, 1, none⟩) (Nat.le_succ _) _
          · have HNN := Lib.hid (show ((l ++ [(⟨i, x, y, q⟩ : Pt)]).map Pt.s).Nodup by
              rw [List.map_append, List.nodup_append]
              refine ⟨HND.out, by simp, fun a ha b hb e => ?_⟩
              obtain rfl : b = i := by simpa using hb
              obtain ⟨p, hp, hpi⟩ := List.mem_map.1 ha
              exact hmi (mem_slots.2 ⟨p, hp, by rw [hpi, e]⟩))
            by_cases hxy : x + y ≤ n
            · have hpn := path_snoc HPT.out hs (pat_yes (n := n) HFW.out hil hxy)
              have HLN := Lib.hid (show l.length < n by
                have := few_slots (fun p hp => (path_mem hpn p hp).1) HNN.out
                simp at this
                omega)
              have HPN := Lib.hid hpn
              obtain ⟨j1, hj1, hj2, hj3, hj4⟩ := info_parts Pack.int_info
              obtain ⟨k1, hk1, hk2, hk3, hk4⟩ := info_parts rpart_info
              have hxyi : ¬ (n : Int) < (x : Int) + (y : Int) := by omega
              clear hpn
              go_wp2_with fail
              clear v0 v1 v2 v3 v4 v5 v6 v7 v8
              refine (HS.out _ HRT.out.below).mono ?_
              rintro r w2 ⟨rfl, hb2⟩
              have HRT2 := Lib.hid ((HRT.out.keep hb2).keep ((Below.refl w2.heap.size w2).alloc (Nat.le_refl _) (.cells #[.int .i64 (x : Int), .int .i64 (y : Int), .int .i64 z] 152)))
              have HP2 := Lib.hid (hb_new w2 #[.int .i64 (x : Int), .int .i64 (y : Int), .int .i64 z] 152)
              have HPB := Lib.hid (show (Value.slice B l.length d).ownBlock ≠ some w2.heap.size from fun hg => by have := (World.ownsRow.lt HRT.out.prts _ hg).2; have := hb2.size; omega)
              clear hb2 HS r0 r1 rl rf0 rf1 b0 b1 bl bf0 bf1 vl
              have b02 := HRT2.out.box.cell 0
              have bl2 := HRT2.out.box.lt
              have HIN := Lib.hid (rin_any _ A c (slots l) (i : Int) (nts_of HRT2.out (fun p hp => (HMEM.out p hp).1) (by omega) (by omega)))
              rw [slots_len, decide_eq_false hmi] at HIN
              go_wp2_with fail
              generalize hw3 : w2.alloc (.cells #[.int .i64 (x : Int), .int .i64 (y : Int), .int .i64 z] 152) = w3 at *
              clear hw3
              generalize w2.heap.size = pb at *
              refine HIN.out.mono ?_
              rintro r w5 ⟨rfl, hb5⟩
              have HRT5 := Lib.hid (HRT2.out.keep hb5)
              have HP5 := Lib.hid (HP2.out.keep hb5)
              clear hb5 HRT2 HP2 HIN b02 bl2
              have hv50 := HRT5.out.vol.cell 0
              have hv5l := HRT5.out.vol.lt
              have hp50 := HP5.out.cell 0
              have hp51 := HP5.out.cell 1
              have hp5l := HP5.out.lt
              have b05 := HRT5.out.box.cell 0
              have b15 := HRT5.out.box.cell 1
              have bl5 := HRT5.out.box.lt
              have bs5 := HRT5.out.below.size
              have HI5 := Lib.hid (HRT5.out.ints.alloc (.cells #[.int .i64 (i : Int)] 3))
              go_wp2_with (first
              | (at_builtin
                 refine wpList_append_own_at _ rfl (.tmp 40) (.tmp 42) 50 rfl w.heap.size 3 j1 (.int .i64 0) 1 8 Tryz.underlying50 hj1 hj2 hj3 hj4 rfl (by decide) (.slice A l.length c) l.length (Pack.i64s (slots l)) rfl HI5.out ⟨w5.heap.size, 0, none⟩ 1 1 [.int .i64 (i : Int)] rfl rfl (cell_one_new _ _ _) (by simp [Value.oneCell']) (by unfold maxLen; omega) (by omega) (by simp; omega) ?_
                 intro v6 w6 hown6 hgr6 _ hat6
                 obtain ⟨G6, c6, rfl⟩ := Pack.row_slice hown6
                 have hal := (Below.refl w5.heap.size w5).alloc (Nat.le_refl _) (.cells #[.int .i64 (i : Int)] 3)
                 have hr6 := hb_grown (HRT5.out.res.keep hal) hgr6 (hb_apart HRT5.out.res HRT5.out.ints (by decide))
                 have hb6 := hb_grown (HRT5.out.box.keep hal) hgr6 (hb_apart HRT5.out.box HRT5.out.ints (by decide))
                 have hp6 := hb_grown (HP5.out.keep hal) hgr6 (hb_apart HP5.out HRT5.out.ints (by decide))
                 have hq6 := (HRT5.out.prts.alloc (.cells #[.int .i64 (i : Int)] 3)).kept hgr6 (Pack.rows_apart HRT5.out.prts HRT5.out.ints (by decide))
                 have hbl6 := (HRT5.out.below.alloc HRT5.out.below.size (.cells #[.int .i64 (i : Int)] 3)).grown hgr6 (by simp; omega) (fun k hk => row_base_lt3 HRT5.out.ints hk)
                 have hcp : ¬ w.heap.size + 1 + 1 = pb := Pm.blk_ne hb6 hp6 (by decide)
                 have hcr : ¬ w.heap.size + 1 + 1 = w.heap.size + 1 := by omega
                 have hcv : ¬ w.heap.size + 1 + 1 = w.heap.size := by omega
                 have hv6 := hb_grown (HRT5.out.vol.keep hal) hgr6 (hb_apart HRT5.out.vol HRT5.out.ints (by decide))
                 have HVV7 := Lib.hid (hv6.far (p := ⟨w.heap.size + 1 + 1, 0, none⟩) (fun e => hcv e.symm) (.slice G6 (l.length + 1) c6))
                 have HR7 := Lib.hid (hr6.far (p := ⟨w.heap.size + 1 + 1, 0, none⟩) (fun e => hcr e.symm) (.slice G6 (l.length + 1) c6))
                 have HB7 := Lib.hid (hb6.set 0 (.slice G6 (l.length + 1) c6))
                 have HP7 := Lib.hid (hp6.far (p := ⟨w.heap.size + 1 + 1, 0, none⟩) (fun e => hcp e.symm) (.slice G6 (l.length + 1) c6))
                 have HI7 := Lib.hid (own_far (i := 0) hown6 hb6 (by decide) (.slice G6 (l.length + 1) c6))
                 have HQ7 := Lib.hid (own_far (i := 0) hq6 hb6 (by decide) (.slice G6 (l.length + 1) c6))
                 have HBL7 := Lib.hid (hbl6.setCell (p := ⟨w.heap.size + 1 + 1, 0, none⟩) (by show w.heap.size ≤ w.heap.size + 1 + 1; omega) (.slice G6 (l.length + 1) c6))
                 have b06 := hb6.cell 0
                 have b16 := hb6.cell 1
                 have f06 := hb6.frozen 0
                 have bl6 := hb6.lt
                 have q06 := hp6.cell 0
                 have q16 := hp6.cell 1
                 have q26 := hp6.cell 2
                 have hz7 : (w6.setCell ⟨w.heap.size + 1 + 1, 0, none⟩ (.slice G6 (l.length + 1) c6)).heap.size = w6.heap.size := by simp [World.setCell]
                 have hn7 := cells_three_new (w6.setCell ⟨w.heap.size + 1 + 1, 0, none⟩ (.slice G6 (l.length + 1) c6)) (.int .i64 (x : Int)) (.int .i64 (y : Int)) (.int .i64 z) 152
                 rw [hz7] at hn7
                 have HN7 := Lib.hid hn7
                 have HQ8 := Lib.hid (HQ7.out.alloc (.cells #[.int .i64 (x : Int), .int .i64 (y : Int), .int .i64 z] 152))
                 have bs6 : w.heap.size ≤ w6.heap.size := by have := HBL7.out.size; omega
                 clear hown6 hgr6 hat6 hal hr6 hb6 hp6 hq6 hbl6 hn7 hz7 hv6)
              | (at_builtin
                 refine wpList_append_own_at _ rfl (.tmp 46) (.tmp 48) 98 rfl w.heap.size 152 k1 (.agg #[.int .i64 0, .int .i64 0, .int .i64 0]) 3 24 Tryz.underlying98 hk1 hk2 hk3 hk4 rfl (by decide) (.slice B l.length d) l.length (pcells l) rfl HQ8.out ⟨w6.heap.size, 0, none⟩ 1 1 [.int .i64 (x : Int), .int .i64 (y : Int), .int .i64 z] rfl rfl HN7.out (by simp [Value.oneCell']) (by unfold maxLen; omega) (by omega) (by simp [World.setCell]; omega) ?_
                 intro v8 w8 hown8 hgr8 _ hat8
                 obtain ⟨G8, d8, rfl⟩ := row_slice3 hown8
                 have hal := (Below.refl (w6.setCell ⟨w.heap.size + 1 + 1, 0, none⟩ (.slice G6 (l.length + 1) c6)).heap.size (w6.setCell ⟨w.heap.size + 1 + 1, 0, none⟩ (.slice G6 (l.length + 1) c6))).alloc (Nat.le_refl _) (.cells #[.int .i64 (x : Int), .int .i64 (y : Int), .int .i64 z] 152)
                 have hv8 := hb_grown (HVV7.out.keep hal) hgr8 (hb_apart3 HVV7.out HQ7.out (by decide))
                 have HVV9 := Lib.hid (hv8.far (p := ⟨w.heap.size + 1 + 1, 1, none⟩) (fun e => hcv e.symm) (.slice G8 (l.length + 1) d8))
                 have hr8 := hb_grown (HR7.out.keep hal) hgr8 (hb_apart3 HR7.out HQ7.out (by decide))
                 have hb8 := hb_grown (HB7.out.keep hal) hgr8 (hb_apart3 HB7.out HQ7.out (by decide))
                 have hp8 := hb_grown (HP7.out.keep hal) hgr8 HPB.out
                 have hi8 := (HI7.out.alloc (.cells #[.int .i64 (x : Int), .int .i64 (y : Int), .int .i64 z] 152)).kept hgr8 (Pack.rows_apart HI7.out HQ7.out (by decide))
                 have hbl8 := (HBL7.out.alloc HBL7.out.size (.cells #[.int .i64 (x : Int), .int .i64 (y : Int), .int .i64 z] 152)).grown hgr8 (by simp [World.setCell]; omega) (fun k hk => row_base_lt3 HQ7.out hk)
                 have HR9 := Lib.hid (hr8.far (p := ⟨w.heap.size + 1 + 1, 1, none⟩) (fun e => hcr e.symm) (.slice G8 (l.length + 1) d8))
                 have HB9 := Lib.hid (hb8.set 1 (.slice G8 (l.length + 1) d8))
                 have HI9 := Lib.hid (own_far (i := 1) hi8 hb8 (by decide) (.slice G8 (l.length + 1) d8))
                 have HQ9 := Lib.hid (own_far (i := 1) hown8 hb8 (by decide) (.slice G8 (l.length + 1) d8))
                 have HBL9 := Lib.hid (hbl8.setCell (p := ⟨w.heap.size + 1 + 1, 1, none⟩) (by show w.heap.size ≤ w.heap.size + 1 + 1; omega) (.slice G8 (l.length + 1) d8))
                 have b18 := hb8.cell 1
                 have f18 := hb8.frozen 1
                 have bl8 := hb8.lt
                 have q08 := hp8.cell 0
                 have q18 := hp8.cell 1
                 have q28 := hp8.cell 2
                 have pl8 := hp8.lt
                 clear hown8 hgr8 hat8 hal hr8 hb8 hp8 hi8 hbl8 hv8))
              have e : (l ++ [(⟨i, x, y, q⟩ : Pt)]).length = l.length + 1 := by simp
              refine ⟨⟨z, l ++ [⟨i, x, y, q⟩], G6, c6, G8, d8, rfl, by rw [HZ.out]; exact HPN.out, HNN.out, ⟨HVV9.out, HR9.out, by rw [e]; exact HB9.out, ?_, ?_, HBL9.out⟩⟩, ?_⟩
              · rw [e, slots_snoc]
                unfold Pack.i64s
                rw [List.map_append]
                exact HI9.out
              · rw [e, pcells_snoc]
                simp only
                rw [← HZ.out]
                exact HQ9.out
              · rw [HB9.out.cell 0, HRT.out.box.cell 0]
                simp [lenOf]
                have := HLN.out
                omega
            · have HN := Lib.hid (rd_stop (n := n) HPT.out hs (pat_far HFW.out (by omega)))
              have hxyi : (n : Int) < (x : Int) + (y : Int) := by omega
              go_wp2_with fail
              clear v0 v1 v2 v3 v4 v5 v6 v7 v8
              refine (HS.out _ HRT.out.below).mono ?_
              rintro r w2 ⟨rfl, hb2⟩
              have HRT2 := Lib.hid ((HRT.out.keep hb2).keep ((Below.refl w2.heap.size w2).alloc (Nat.le_refl _) (.cells #[.int .i64 (x : Int), .int .i64 (y : Int), .int .i64 z] 152)))
              have HP2 := Lib.hid (hb_new w2 #[.int .i64 (x : Int), .int .i64 (y : Int), .int .i64 z] 152)
              clear hb2 HS r0 r1 rl rf0 rf1 b0 b1 bl bf0 bf1 vl
              have b02 := HRT2.out.box.cell 0
              have bl2 := HRT2.out.box.lt
              have HIN := Lib.hid (rin_any _ A c (slots l) (i : Int) (nts_of HRT2.out (fun p hp => (HMEM.out p hp).1) (by omega) (by omega)))
              rw [slots_len, decide_eq_false hmi] at HIN
              go_wp2_with fail
              generalize hw3 : w2.alloc (.cells #[.int .i64 (x : Int), .int .i64 (y : Int), .int .i64 z] 152) = w3 at *
              clear hw3
              generalize w2.heap.size = pb at *
              refine HIN.out.mono ?_
              rintro r w5 ⟨rfl, hb5⟩
              have HRT5 := Lib.hid (HRT2.out.keep hb5)
              have HP5 := Lib.hid (HP2.out.keep hb5)
              clear hb5 HRT2 HP2 HIN b02 bl2
              have hv50 := HRT5.out.vol.cell 0
              have hv5l := HRT5.out.vol.lt
              have hp50 := HP5.out.cell 0
              have hp51 := HP5.out.cell 1
              have hp5l := HP5.out.lt
              have r50 := HRT5.out.res.cell 0
              have r51 := HRT5.out.res.cell 1
              have rl5 := HRT5.out.res.lt
              have rf50 := HRT5.out.res.frozen 0
              have rf51 := HRT5.out.res.frozen 1
              go_wp2
              refine bodyPost_ret (v := .tuple #[.agg #[.slice none 0 0, .slice none 0 0], .bool false]) ?_ rfl (RrN.none HN.out rfl ?_)
              · simp [results, Tryz.results41, go_sem, r50, r51]
              · exact (HRT5.out.below.setCell (p := ⟨w.heap.size + 1, 0, none⟩) (Nat.le_succ _) _).setCell (p := ⟨w.heap.size + 1, 1, none⟩) (Nat.le_succ _) _
      · have HN := Lib.hid (rd_stop (n := n) HPT.out hs (pat_out (by omega)))
        have HS := Lib.hid (fun w' (hb : Below w.heap.size w w') => Vol.rslot_no (n := n) (m := m) (s := s) (sl := sl) (bm := bm) (bk := bk) (E := E) w' (.slice (some ⟨g, 0, none⟩) E gc) sv (by omega))
        unfold dv at HS
        go_wp2_with fail
        clear v0 v1 v2 v3 v4 v5 v6 v7 v8
        refine (HS.out _ HRT.out.below).mono ?_
        rintro r w2 ⟨rfl, hb2⟩
        have HRT2 := Lib.hid ((HRT.out.keep hb2).keep ((Below.refl w2.heap.size w2).alloc (Nat.le_refl _) (.cells #[.int .i64 0, .int .i64 0, .int .i64 0] 152)))
        have HP2 := Lib.hid (hb_new w2 #[.int .i64 0, .int .i64 0, .int .i64 0] 152)
        clear hb2 HS r0 r1 rl rf0 rf1 b0 b1 bl bf0 bf1 vl
        have r20 := HRT2.out.res.cell 0
        have r21 := HRT2.out.res.cell 1
        have rl2 := HRT2.out.res.lt
        have rf20 := HRT2.out.res.frozen 0
        have rf21 := HRT2.out.res.frozen 1
        go_wp2
        generalize w2.alloc (.cells #[.int .i64 0, .int .i64 0, .int .i64 0] 152) = w3 at *
        refine bodyPost_ret (v := .tuple #[.agg #[.slice none 0 0, .slice none 0 0], .bool false]) ?_ rfl (RrN.none HN.out rfl ?_)
        · simp [results, Tryz.results41, go_sem, r20, r21]
        · exact (HRT2.out.below.setCell (p := ⟨w.heap.size + 1, 0, none⟩) (Nat.le_succ _) _).setCell (p := ⟨w.heap.size + 1, 1, none⟩) (Nat.le_succ _) _
theorem rread_any (w : World) {n m s sl bm bk E g gc : Nat} {W : List Nat} (hpl : Pl n m s sl bm bk E) (hW : Pack.Wds w (some ⟨g, 0, none⟩) W) (hWE : W.length = E) (hd : Int) :
    Calls Tryz.prog 41 #[.agg (dv n m s sl bm bk E (.slice (some ⟨g, 0, none⟩) E gc)), .int .i64 hd] w (RrTo n (fw W sl) hd w) := by
  refine (rread_new w hpl hW hWE hd).mono ?_
  intro r w' k
  unfold RrN at k
  unfold RrTo
  cases e : rd (pat (fw W sl) n) n hd with
  | none =>
    rw [e] at k
    exact k
  | some l =>
    rw [e] at k
    obtain ⟨A, c, B, d, h1, h2, h3, h4, _, h6⟩ := k
    exact ⟨A, c, B, d, h1, h2, h3, h4.1, h4.2, h6⟩
end Chn
end Go.Proofs.YtilolepbfmcbgaaGreatDoor
/- The document's Blocks; law 16's Same of what is the same. -/
namespace Go.Proofs.YtilolepbfmcbgaaGreatDoor
open Go.RowKit Go.MapKept
namespace Chn
open Vol (Vo Up Kq Hb hb_new hb_grown hb_apart)

set_option maxHeartbeats 1000000 in
set_option maxRecDepth 100000 in
theorem rblocks_new (w : World) (A B : Option Addr) (n' c d : Nat) (l : List Pt) (h : Prt w B l) (hm : Mays l) (hl : l.length ≤ 65534) :
    Calls Tryz.prog 42 #[.agg #[.slice A n' c, .slice B l.length d]] w fun r w' => ∃ G gc, r = .returned (.slice G (tot l) gc) ∧ Pack.Nts w' G ((blk l).map Int.ofNat) ∧ tot l ≤ gc ∧ New w.heap.size G ∧ Below w.heap.size w w' := by
  have H := Lib.hid h
  have HM := Lib.hid hm
  have htl := tot_le HM.out l.length
  rw [List.take_length] at htl
  have HTL := Lib.hid htl
  clear h hm htl
  obtain ⟨i0, hi0, hz0, hz1, hz2⟩ := info_parts Pack.int_info
  go_enter Tryz.func42, Tryz.ntmps42
  go_wp2
  have HB2 := Lib.hid ((Below.refl w.heap.size w).alloc (Nat.le_refl _) (.cells #[.slice A n' c, .slice B l.length d] 100))
  go_loopw [3, 10] (fun v i wr => ∃ (m : Nat) (G : Option Addr) (gc : Nat), m ≤ l.length ∧ i = .int .i64 (m : Int) ∧ v = .slice G (tot (l.take m)) gc ∧ wr.ownsRow w.heap.size 3 1 (.slice G (tot (l.take m)) gc) (tot (l.take m)) (Pack.i64s ((blk (l.take m)).map Int.ofNat)) ∧ Below w.heap.size w wr) (fun _ i _ => l.length - (intOf i).toNat)
  case atStart => exact ⟨0, none, 0, Nat.zero_le _, rfl, by simp [tot], by simpa [tot, blk, Pack.i64s] using World.ownsRow_nil _ _ _ _, HB2.out⟩
  case round =>
    obtain ⟨m, G, gc, hm, rfl, rfl, hrow, hb⟩ := hrel
    clear HB2
    by_cases hlt : m < l.length
    · obtain ⟨b, o, rfl, hbb, hc0, hc1, hc2⟩ := H.out.at' m hlt
      have hc0 := (hb.cell (p := ⟨b, o + m * 3, none⟩) hbb).trans hc0
      have hc1 := (hb.cell (p := ⟨b, o + m * 3 + 1, none⟩) hbb).trans hc1
      have hc2 := (hb.cell (p := ⟨b, o + m * 3 + 2, none⟩) hbb).trans hc2
      have hbb := Nat.lt_of_lt_of_le hbb hb.size
      have HT := Lib.hid (tot_snoc hlt)
      have HK := Lib.hid (blk_snoc hlt)
      have htk := tot_le HM.out m
      have htk2 := tot_le HM.out (m + 1)
      rw [HT.out] at htk2
      have hcl := Slo.may_lt (HM.out _ (List.getElem_mem hlt))
      generalize l[m] = p at *
      obtain ⟨p0, x, y, q⟩ := p
      simp only at hc0 hc1 hc2 HT HK hcl htk2
      generalize Slo.nx q = z at *
      obtain ⟨T, hT⟩ : ∃ T, T = tot (l.take m) := ⟨_, rfl⟩
      obtain ⟨K, hK⟩ : ∃ K, K = blk (l.take m) := ⟨_, rfl⟩
      rw [← hT] at hrow HT htk htk2 ⊢
      rw [← hK] at hrow HK
      clear hT hK
      have hal := (Below.refl wr.heap.size wr).alloc (Nat.le_refl _) (.cells #[.int .i64 (x : Int), .int .i64 (y : Int), .int .i64 z] 152)
      have HB := Lib.hid (hb.trans (hal.mono hb.size))
      have HX := Lib.hid (hb_new wr #[.int .i64 (x : Int), .int .i64 (y : Int), .int .i64 z] 152)
      have HO := Lib.hid (own_keep3 hrow hal)
      clear hal hb hrow
      go_wp2
      generalize hw3 : wr.alloc (.cells #[.int .i64 (x : Int), .int .i64 (y : Int), .int .i64 z] 152) = w3 at *
      clear hw3
      generalize wr.heap.size = pb at *
      clear hc0 hc1 hc2 hbb
      clear wr
      go_loopw [3, 16] (fun v i wr => ∃ (t : Nat) (G : Option Addr) (gc : Nat), t ≤ y ∧ i = .int .i64 (t : Int) ∧ v = .slice G (T + t) gc ∧ wr.ownsRow w.heap.size 3 1 (.slice G (T + t) gc) (T + t) (Pack.i64s ((K ++ (List.range t).map (x + ·)).map Int.ofNat)) ∧ Hb wr pb #[.int .i64 (x : Int), .int .i64 (y : Int), .int .i64 z] 152 ∧ Below w.heap.size w wr) (fun _ i _ => y - (intOf i).toNat)
      case atStart => exact ⟨0, G, gc, Nat.zero_le _, rfl, rfl, by simpa using HO.out, HX.out, HB.out⟩
      case round =>
        obtain ⟨t, G, gc, ht, rfl, rfl, hrow, hx, hb⟩ := hrel
        clear HO HX HB
        by_cases hty : t < y
        · have x0 := hx.cell 0
          have xl := hx.lt
          have bs := hb.size
          have HX := Lib.hid hx
          have HB := Lib.hid hb
          have HR := Lib.hid hrow
          have HO := Lib.hid (hrow.alloc (.cells #[.int .i64 ((x : Int) + (t : Int))] 3))
          clear hx hb hrow
          go_wp2_with (at_builtin
                       refine wpList_append_own_at _ rfl (.tmp 19) (.tmp 24) 50 rfl w.heap.size 3 i0 (.int .i64 0) 1 8 Tryz.underlying50 hi0 hz0 hz1 hz2 rfl (by decide) (.slice G (T + t) gc) (T + t) (Pack.i64s ((K ++ (List.range t).map (x + ·)).map Int.ofNat)) rfl HO.out ⟨wr.heap.size, 0, none⟩ 1 1 [.int .i64 ((x : Int) + (t : Int))] rfl rfl (cell_one_new _ _ _) (by simp [Value.oneCell']) (by unfold maxLen; omega) (by omega) (by simp; omega) ?_
                       intro v6 w6 hown6 hgr6 _ hat6
                       obtain ⟨G6, c6, rfl⟩ := Pack.row_slice hown6
                       have hal := (Below.refl wr.heap.size wr).alloc (Nat.le_refl _) (.cells #[.int .i64 ((x : Int) + (t : Int))] 3)
                       have HX6 := Lib.hid (hb_grown (HX.out.keep hal) hgr6 (hb_apart HX.out HR.out (by decide)))
                       have HB6 := Lib.hid ((HB.out.trans (hal.mono HB.out.size)).grown hgr6 (by simp; omega) (fun k hk => row_base_lt3 HR.out hk))
                       have HO6 := Lib.hid hown6
                       clear hown6 hgr6 hat6 hal)
          go_roundw
          case rel =>
            refine ⟨t + 1, G6, c6, by omega, by go_num, by rw [← Nat.add_assoc], ?_, HX6.out, HB6.out⟩
            have e : (K ++ (List.range (t + 1)).map (x + ·)).map Int.ofNat = (K ++ (List.range t).map (x + ·)).map Int.ofNat ++ [(x : Int) + (t : Int)] := by simp [List.range_succ]
            have h6 := HO6.out
            rw [e]
            unfold Pack.i64s at h6 ⊢
            rw [List.map_append, ← Nat.add_assoc]
            exact h6
          case measure => simp [intOf]; omega
        · obtain rfl : t = y := by omega
          have HX := Lib.hid hx
          have HB := Lib.hid hb
          have HR := Lib.hid hrow
          clear hx hb hrow
          go_wp2
          refine ⟨⟨m + 1, G, gc, by omega, by go_num, by rw [HT.out], ?_, HB.out⟩, by simp [intOf]; omega⟩
          rw [HT.out, HK.out]
          exact HR.out
    · obtain rfl : m = l.length := by omega
      rw [List.take_length] at hrow ⊢
      have hcap := row_cap3 hrow
      have htl := HTL.out
      go_wp2
      go_ret
      refine ⟨G, gc, rfl, Pack.own_nts hrow (fun x hx => ?_) (by omega), hcap, own_new hrow, hb⟩
      obtain ⟨k, hk, rfl⟩ := List.mem_map.1 hx
      obtain ⟨p, hp, hk⟩ := List.mem_flatMap.1 hk
      obtain ⟨j, hj, rfl⟩ := List.mem_map.1 hk
      have := Slo.may_lt (HM.out p hp)
      have := List.mem_range.1 hj
      simp only [Int.ofNat_eq_natCast]
      omega
theorem rblocks_any (w : World) (A B : Option Addr) (n' c d : Nat) (l : List Pt) (h : Prt w B l) (hm : Mays l) (hl : l.length ≤ 65534) :
    Calls Tryz.prog 42 #[.agg #[.slice A n' c, .slice B l.length d]] w fun r w' => ∃ G gc, r = .returned (.slice G (tot l) gc) ∧ Pack.Nts w' G ((blk l).map Int.ofNat) ∧ tot l ≤ gc ∧ Below w.heap.size w w' := by
  refine (rblocks_new w A B n' c d l h hm hl).mono ?_
  rintro r w' ⟨G, gc, h1, h2, h3, _, h5⟩
  exact ⟨G, gc, h1, h2, h3, h5⟩

set_option maxHeartbeats 1000000 in
set_option maxRecDepth 100000 in
theorem lsame_yes (w : World) (A B C D : Option Addr) (c1 c2 c3 c4 : Nat) (l : List Pt) (hll : l.length ≤ 65534) (h1 : Pack.Nts w A (slots l)) (h2 : Pack.Nts w C (slots l)) (h3 : Prt w B l) (h4 : Prt w D l) :
    Calls Tryz.prog 46 #[.agg #[.slice A l.length c1, .slice B l.length c2], .agg #[.slice C l.length c3, .slice D l.length c4]] w fun r w' => r = .returned (.bool true) ∧ Below w.heap.size w w' := by
  have HS := Lib.hid (fun w' (hb : Below w.heap.size w w') => rsame_yes w' A C c1 c3 (slots l) (h1.keep hb) (h2.keep hb))
  rw [slots_len] at HS
  have H3 := Lib.hid h3
  have H4 := Lib.hid h4
  clear h1 h2 h3 h4
  go_enter Tryz.func46, Tryz.ntmps46
  go_wp2_with fail
  have k := fun (W : World) o => (Below.refl W.heap.size W).alloc (Nat.le_refl _) o
  have h1 := (hb_new w #[.slice A l.length c1, .slice B l.length c2] 63).keep (k _ (.cells #[.slice C l.length c3, .slice D l.length c4] 100))
  have h2 := hb_new (w.alloc (.cells #[.slice A l.length c1, .slice B l.length c2] 63)) #[.slice C l.length c3, .slice D l.length c4] 100
  rw [World.size_alloc] at h2
  have hb0 := (k w (.cells #[.slice A l.length c1, .slice B l.length c2] 63)).trans ((k _ (.cells #[.slice C l.length c3, .slice D l.length c4] 100)).mono (by simp))
  have H1 := Lib.hid h1
  have H2 := Lib.hid h2
  have HB0 := Lib.hid hb0
  clear k h1 h2 hb0
  generalize (w.alloc (.cells #[.slice A l.length c1, .slice B l.length c2] 63)).alloc (.cells #[.slice C l.length c3, .slice D l.length c4] 100) = w0 at *
  refine (HS.out _ HB0.out).mono ?_
  rintro r w1 ⟨rfl, hb⟩
  have HX1 := Lib.hid (H1.out.keep hb)
  have HX2 := Lib.hid (H2.out.keep hb)
  have HB1 := Lib.hid (HB0.out.trans (hb.mono HB0.out.size))
  clear hb HS H1 H2 HB0
  have x1 := HX1.out.cell 1
  have y1 := HX2.out.cell 1
  go_wp2
  clear x1 y1
  go_loopw [24] (fun i wr => ∃ m : Nat, m ≤ l.length ∧ i = .int .i64 (m : Int) ∧ Below w1.heap.size w1 wr) (fun i _ => l.length - (intOf i).toNat)
  case atStart => exact ⟨0, Nat.zero_le _, rfl, Below.refl _ _⟩
  case round =>
    obtain ⟨m, hm, rfl, hb⟩ := hrel
    by_cases hlt : m < l.length
    · have hbw := HB1.out.trans (hb.mono HB1.out.size)
      obtain ⟨b, o, rfl, hbb, hc0, hc1, hc2⟩ := (H3.out.keep hbw).at' m hlt
      obtain ⟨b2, o2, rfl, hbb2, hd0, hd1, hd2⟩ := (H4.out.keep hbw).at' m hlt
      have x1 := (HX1.out.keep hb).cell 1
      have y1 := (HX2.out.keep hb).cell 1
      have xl := (HX1.out.keep hb).lt
      have yl := (HX2.out.keep hb).lt
      generalize l[m] = p at *
      obtain ⟨p0, x, y, q⟩ := p
      simp only at hc0 hc1 hc2 hd0 hd1 hd2
      generalize Slo.nx q = z at *
      have hmi : (m : Int) < (l.length : Int) := by omega
      have HB := Lib.hid (hb.trans (bel_drew wr))
      clear hb hbw
      go_wp2
      go_region
      go_wp2
      exact ⟨⟨m + 1, by omega, by go_num, HB.out⟩, by simp [intOf]; omega⟩
    · obtain rfl : m = l.length := by omega
      go_wp2
      go_ret
      exact ⟨rfl, HB1.out.trans (hb.mono HB1.out.size)⟩
end Chn
end Go.Proofs.YtilolepbfmcbgaaGreatDoor
/- The document's claims: Slot, Owner. -/
namespace Go.Proofs.YtilolepbfmcbgaaGreatDoor
open Go.RowKit Go.MapKept
namespace Clm
open Chn (Pt Prt slots slots_len Mays tot blk blk_len)
open Vol (Hb hb_new)
open Pack (Nts)

/-- the document's claims as they lie -/
structure Rc (w : World) (I H : Option Addr) (L : List Cl) : Prop where
  nds : ∀ j (h : j < L.length), ∃ b o, I = some ⟨b, o, none⟩ ∧ b < w.heap.size ∧ w.cell? ⟨b, o + j * 3, none⟩ = some (.int .i64 (L[j].k : Int)) ∧ w.cell? ⟨b, o + j * 3 + 1, none⟩ = some (.int .i64 ((L[j].p : Int) - 1)) ∧ w.cell? ⟨b, o + j * 3 + 2, none⟩ = some (.int .i64 (L[j].z : Int))
  chs : ∀ j (h : j < L.length), ∃ b o, H = some ⟨b, o, none⟩ ∧ b < w.heap.size ∧ ∃ (A : Option Addr) (a : Nat) (D : Option Addr) (d : Nat), w.cell? ⟨b, o + j * 2, none⟩ = some (.slice A L[j].l.length a) ∧ w.cell? ⟨b, o + j * 2 + 1, none⟩ = some (.slice D L[j].l.length d) ∧ Nts w A (slots L[j].l) ∧ Prt w D L[j].l
theorem Rc.keep {w w' : World} {I H : Option Addr} {L : List Cl} (h : Rc w I H L) (hb : Below w.heap.size w w') : Rc w' I H L :=
  ⟨fun j hj => by
    obtain ⟨b, o, e, hlt, h0, h1, h2⟩ := h.nds j hj
    exact ⟨b, o, e, Nat.lt_of_lt_of_le hlt hb.size, (hb.cell (p := ⟨b, o + j * 3, none⟩) hlt).trans h0, (hb.cell (p := ⟨b, o + j * 3 + 1, none⟩) hlt).trans h1, (hb.cell (p := ⟨b, o + j * 3 + 2, none⟩) hlt).trans h2⟩,
   fun j hj => by
    obtain ⟨b, o, e, hlt, A, a, D, d, h0, h1, h2, h3⟩ := h.chs j hj
    exact ⟨b, o, e, Nat.lt_of_lt_of_le hlt hb.size, A, a, D, d, (hb.cell (p := ⟨b, o + j * 2, none⟩) hlt).trans h0, (hb.cell (p := ⟨b, o + j * 2 + 1, none⟩) hlt).trans h1, h2.keep hb, h3.keep hb⟩⟩
theorem slots_mem {l : List Pt} {s : Nat} : (s : Int) ∈ slots l ↔ s ∈ sls l := by
  unfold slots sls
  simp only [List.mem_map]
  constructor
  · rintro ⟨p, hp, e⟩
    exact ⟨p, hp, by omega⟩
  · rintro ⟨p, hp, e⟩
    exact ⟨p, hp, by omega⟩
theorem sl_take {L : List Cl} {t : Nat} (h : t < L.length) : sl (L.take (t + 1)) = sl (L.take t) ++ sls L[t].l := by
  rw [List.take_succ_eq_append_getElem h, sl_snoc]
theorem bl_take {L : List Cl} {t : Nat} (h : t < L.length) : bl (L.take (t + 1)) = bl (L.take t) ++ blk L[t].l := by
  rw [List.take_succ_eq_append_getElem h, bl_snoc]
set_option maxHeartbeats 2000000 in
set_option maxRecDepth 100000 in
theorem rslot_any (w : World) (I H : Option Addr) (n ic hc : Nat) (L : List Cl) (h : Rc w I H L) (hl : L.length ≤ 65534) (s : Nat) :
    Calls Tryz.prog 14 #[.agg #[.int .i64 (n : Int), .slice I L.length ic, .slice H L.length hc], .int .i64 (s : Int)] w fun r w' => r = .returned (.bool (decide (s ∈ sl L))) ∧ Below w.heap.size w w' := by
  obtain ⟨M, hM⟩ : ∃ M, M = decide (s ∈ sl L) := ⟨_, rfl⟩
  rw [← hM]
  have HM := Lib.hid hM
  have HR := Lib.hid h
  have HB0 := Lib.hid ((Below.refl w.heap.size w).alloc (Nat.le_refl _) (.cells #[.int .i64 (n : Int), .slice I L.length ic, .slice H L.length hc] 40))
  clear h hM
  go_enter Tryz.func14, Tryz.ntmps14
  go_wp2
  generalize w.alloc (.cells #[.int .i64 (n : Int), .slice I L.length ic, .slice H L.length hc] 40) = w0 at *
  go_loopw [10] (fun q wr => ∃ t : Nat, t ≤ L.length ∧ q = .int .i64 (t : Int) ∧ s ∉ sl (L.take t) ∧ Below w0.heap.size w0 wr) (fun q _ => L.length - (intOf q).toNat)
  case atStart => exact ⟨0, Nat.zero_le _, rfl, by simp [sl], Below.refl _ _⟩
  case round =>
    obtain ⟨t, ht, rfl, hns, hb⟩ := hrel
    have HBW := Lib.hid (HB0.out.trans (hb.mono HB0.out.size))
    have HBQ := Lib.hid hb
    have HNS := Lib.hid hns
    by_cases hlt : t < L.length
    · have HMEM := Lib.hid (show s ∈ sls L[t].l → s ∈ sl L from fun hx => List.mem_flatMap.2 ⟨_, List.getElem_mem hlt, hx⟩)
      have HTK := Lib.hid (sl_take hlt)
      obtain ⟨bh, oh, hH, hbh, A, a, D, d, g0, g1, hA, _⟩ := (HR.out.keep HBW.out).chs t hlt
      subst hH
      have hti : (t : Int) < (L.length : Int) := by omega
      generalize L[t].l = l at *
      have hal := (Below.refl wr.heap.size wr).alloc (Nat.le_refl _) (.cells #[.slice A l.length a, .slice D l.length d] 100)
      have HBA := Lib.hid (HBQ.out.trans (hal.mono HBQ.out.size))
      have hha := has_any _ A a (slots l) (s : Int) (hA.keep hal)
      rw [slots_len] at hha
      have HHA := Lib.hid hha
      have HX := Lib.hid (hb_new wr #[.slice A l.length a, .slice D l.length d] 100)
      have HWS := Lib.hid (show w.heap.size ≤ w0.heap.size from HB0.out.size)
      clear hal hha hb hns hA
      by_cases hin : (s : Int) ∈ slots l
      · have HMT := Lib.hid (show M = true by rw [HM.out]; exact decide_eq_true (HMEM.out (slots_mem.1 hin)))
        have hd := HHA.out
        rw [decide_eq_true hin] at hd
        have HD := Lib.hid hd
        clear hd HHA hin
        go_wp2_with fail
        refine HD.out.mono ?_
        rintro e w2 ⟨rfl, hb2⟩
        have HB2 := Lib.hid (HB0.out.trans ((HBA.out.trans (hb2.mono HBA.out.size)).mono HB0.out.size))
        clear hb2
        go_wp2
        go_ret
        exact ⟨by rw [HMT.out]; rfl, HB2.out⟩
      · have hd := HHA.out
        rw [decide_eq_false hin] at hd
        have HD := Lib.hid hd
        have HNI := Lib.hid (fun h => hin (slots_mem.2 h))
        clear hd HHA hin
        go_wp2_with fail
        refine HD.out.mono ?_
        rintro e w2 ⟨rfl, hb2⟩
        have HB2 := Lib.hid (HBA.out.trans (hb2.mono HBA.out.size))
        clear hb2
        go_wp2
        refine ⟨⟨t + 1, by omega, by go_num, ?_, HB2.out⟩, by simp [intOf]; omega⟩
        rw [HTK.out]
        simp only [List.mem_append, not_or]
        exact ⟨HNS.out, HNI.out⟩
    · obtain rfl : t = L.length := by omega
      rw [List.take_length] at hns
      have HMF := Lib.hid (show M = false by rw [HM.out]; exact decide_eq_false hns)
      go_wp2
      go_ret
      exact ⟨by rw [HMF.out]; rfl, HBW.out⟩
/-- whose a block is, as it is answered -/
def OwTo (L : List Cl) (b : Nat) (r : Ending) : Prop := (∃ i k : Nat, Own L i k b ∧ r = .returned (.tuple #[.int .i64 (i : Int), .int .i64 (k : Int)])) ∨ (b ∉ bl L ∧ r = .returned (.tuple #[.int .i64 (-1), .int .i64 (-1)]))
set_option maxHeartbeats 2000000 in
set_option maxRecDepth 100000 in
theorem rowner_any (w : World) (I H : Option Addr) (n ic hc : Nat) (L : List Cl) (h : Rc w I H L) (hl : L.length ≤ 65534) (hm : ∀ c ∈ L, Mays c.l ∧ c.l.length ≤ 65534) (b : Nat) :
    Calls Tryz.prog 48 #[.agg #[.int .i64 (n : Int), .slice I L.length ic, .slice H L.length hc], .int .i64 (b : Int)] w fun r w' => OwTo L b r ∧ Below w.heap.size w w' := by
  have HR := Lib.hid h
  have HMM := Lib.hid hm
  have HB0 := Lib.hid ((Below.refl w.heap.size w).alloc (Nat.le_refl _) (.cells #[.int .i64 (n : Int), .slice I L.length ic, .slice H L.length hc] 40))
  clear h hm
  go_enter Tryz.func48, Tryz.ntmps48
  go_wp2
  generalize w.alloc (.cells #[.int .i64 (n : Int), .slice I L.length ic, .slice H L.length hc] 40) = w0 at *
  go_loopw [13] (fun q wr => ∃ t : Nat, t ≤ L.length ∧ q = .int .i64 (t : Int) ∧ b ∉ bl (L.take t) ∧ Below w0.heap.size w0 wr) (fun q _ => L.length - (intOf q).toNat)
  case atStart => exact ⟨0, Nat.zero_le _, rfl, by simp [bl], Below.refl _ _⟩
  case round =>
    obtain ⟨t, ht, rfl, hns, hb⟩ := hrel
    have HBW := Lib.hid (HB0.out.trans (hb.mono HB0.out.size))
    have HBQ := Lib.hid hb
    have HNS := Lib.hid hns
    by_cases hlt : t < L.length
    · have HOWN := Lib.hid (fun k (hk : (blk L[t].l)[k]? = some b) => show Own L t k b from ⟨hlt, hk⟩)
      have HTK := Lib.hid (bl_take hlt)
      obtain ⟨bh, oh, hH, hbh, A, a, D, d, g0, g1, _, hD⟩ := (HR.out.keep HBW.out).chs t hlt
      subst hH
      have hti : (t : Int) < (L.length : Int) := by omega
      obtain ⟨hmy, hll⟩ := HMM.out _ (List.getElem_mem hlt)
      generalize L[t].l = l at *
      have hal := (Below.refl wr.heap.size wr).alloc (Nat.le_refl _) (.cells #[.slice A l.length a, .slice D l.length d] 100)
      have HBA := Lib.hid (HBQ.out.trans (hal.mono HBQ.out.size))
      have hrb := Chn.rblocks_any _ A D l.length a d l (hD.keep hal) hmy hll
      rw [← blk_len] at hrb
      have hbl := Chn.tot_le hmy l.length
      rw [List.take_length, ← blk_len] at hbl
      have HRB := Lib.hid hrb
      have HX := Lib.hid (hb_new wr #[.slice A l.length a, .slice D l.length d] 100)
      clear hal hrb hb hns hD hmy
      go_wp2_with fail
      refine HRB.out.mono ?_
      rintro e w2 ⟨G, gc, rfl, hng, _, hb2⟩
      have HB2 := Lib.hid (HBA.out.trans (hb2.mono HBA.out.size))
      have HG2 := Lib.hid hng
      clear hng hb2
      generalize hY : blk l = Y at *
      have hyl : Y.length ≤ 5000000000 := by omega
      clear hbl
      go_wp2
      go_loopw [21] (fun q wr => ∃ k : Nat, k ≤ Y.length ∧ q = .int .i64 (k : Int) ∧ b ∉ Y.take k ∧ Below w2.heap.size w2 wr) (fun q _ => Y.length - (intOf q).toNat)
      case atStart => exact ⟨0, Nat.zero_le _, rfl, by simp, Below.refl _ _⟩
      case round =>
        obtain ⟨k, hk, rfl, hnk, hb3⟩ := hrel
        by_cases hkl : k < Y.length
        · obtain ⟨bg, og, hG, hbg, c0⟩ := (HG2.out.keep hb3).at' k (by rw [List.length_map]; exact hkl)
          subst hG
          rw [List.getElem_map] at c0
          have HYK := Lib.hid (List.getElem?_eq_getElem hkl)
          have HYT := Lib.hid (show Y.take (k + 1) = Y.take k ++ [Y[k]] from List.take_succ_eq_append_getElem hkl)
          generalize Y[k] = y at *
          have c0 : wr.cell? ⟨bg, og + k, none⟩ = some (.int .i64 (y : Int)) := c0
          have HNK := Lib.hid hnk
          have HB3 := Lib.hid hb3
          have hki : (k : Int) < (Y.length : Int) := by omega
          clear hnk hb3
          by_cases hyb : y = b
          · subst hyb
            go_wp2
            go_ret2
            exact ⟨.inl ⟨t, k, HOWN.out k HYK.out, rfl⟩, HB0.out.trans ((HB2.out.trans (HB3.out.mono HB2.out.size)).mono HB0.out.size)⟩
          · have hyb2 : ((y : Int) == (b : Int)) = false := beq_eq_false_iff_ne.2 (by omega)
            have hyb3 : ¬ (y : Int) = (b : Int) := by omega
            have HNE := Lib.hid hyb
            clear hyb
            go_wp2
            refine ⟨⟨k + 1, by omega, by go_num, ?_, HB3.out⟩, by simp [intOf]; omega⟩
            rw [HYT.out]
            simp only [List.mem_append, List.mem_singleton, not_or]
            exact ⟨HNK.out, fun e => HNE.out e.symm⟩
        · obtain rfl : k = Y.length := by omega
          rw [List.take_length] at hnk
          have HNK := Lib.hid hnk
          have HB3 := Lib.hid (HB2.out.trans (hb3.mono HB2.out.size))
          clear hnk hb3
          go_wp2
          refine ⟨⟨t + 1, by omega, by go_num, ?_, HB3.out⟩, by simp [intOf]; omega⟩
          rw [HTK.out]
          simp only [List.mem_append, not_or]
          exact ⟨HNS.out, HNK.out⟩
    · obtain rfl : t = L.length := by omega
      rw [List.take_length] at hns
      go_wp2
      go_ret2
      exact ⟨.inr ⟨hns, rfl⟩, HBW.out⟩
end Clm
end Go.Proofs.YtilolepbfmcbgaaGreatDoor
/- The four rows of the document's Scan under way. -/
namespace Go.Proofs.YtilolepbfmcbgaaGreatDoor
open Go.RowKit Go.MapKept
namespace Clm
open Chn (Pt New Prt slots slots_len Mays tot blk blk_len own_keep3)
open Vol (Hb hb_new)
open Pack (Nts i64s)

/-- a chain's rows, in blocks of F -/
structure Kp (w : World) (F : Nat → Prop) (A D : Option Addr) (l : List Pt) : Prop where
  nts : Nts w A (slots l)
  prt : Prt w D l
  fA : l ≠ [] → ∀ x, A = some x → F x.block
  fD : l ≠ [] → ∀ x, D = some x → F x.block
theorem nts_moved {w w' : World} {F : Nat → Prop} {A : Option Addr} {l : List Int} (h : Nts w A l) (hf : l ≠ [] → ∀ x, A = some x → F x.block) (hs : w.heap.size ≤ w'.heap.size) (hk : ∀ k, F k → w'.heap[k]? = w.heap[k]?) : Nts w' A l :=
  ⟨h.i64, h.len, fun j hj => by
    obtain ⟨b, o, rfl, hb, hc⟩ := h.at' j hj
    have hF := hf (by intro e; subst e; simp at hj) _ rfl
    exact ⟨b, o, rfl, Nat.lt_of_lt_of_le hb hs, (World.cell?_of_block (w := w) (a := ⟨b, o + j, none⟩) (hk b hF)).trans hc⟩⟩
theorem prt_moved {w w' : World} {F : Nat → Prop} {A : Option Addr} {l : List Pt} (h : Prt w A l) (hf : l ≠ [] → ∀ x, A = some x → F x.block) (hs : w.heap.size ≤ w'.heap.size) (hk : ∀ k, F k → w'.heap[k]? = w.heap[k]?) : Prt w' A l :=
  ⟨fun j hj => by
    obtain ⟨b, o, rfl, hb, h0, h1, h2⟩ := h.at' j hj
    have hF := hk b (hf (by intro e; subst e; simp at hj) _ rfl)
    exact ⟨b, o, rfl, Nat.lt_of_lt_of_le hb hs, (World.cell?_of_block (w := w) (a := ⟨b, o + j * 3, none⟩) hF).trans h0, (World.cell?_of_block (w := w) (a := ⟨b, o + j * 3 + 1, none⟩) hF).trans h1, (World.cell?_of_block (w := w) (a := ⟨b, o + j * 3 + 2, none⟩) hF).trans h2⟩⟩
theorem slots_nil {l : List Pt} (h : slots l ≠ []) : l ≠ [] := fun e => h (by rw [e]; rfl)
theorem Kp.moved {w w' : World} {F : Nat → Prop} {A D : Option Addr} {l : List Pt} (h : Kp w F A D l) (hs : w.heap.size ≤ w'.heap.size) (hk : ∀ k, F k → w'.heap[k]? = w.heap[k]?) : Kp w' F A D l :=
  ⟨nts_moved h.nts (fun e => h.fA (slots_nil e)) hs hk, prt_moved h.prt h.fD hs hk, h.fA, h.fD⟩
theorem Kp.sub {w : World} {F F' : Nat → Prop} {A D : Option Addr} {l : List Pt} (h : Kp w F A D l) (hs : ∀ k, F k → F' k) : Kp w F' A D l :=
  ⟨h.nts, h.prt, fun e x hx => hs _ (h.fA e x hx), fun e x hx => hs _ (h.fD e x hx)⟩
/-- the chains' values, and what they hold -/
def Con (w : World) (F : Nat → Prop) (cs : List Value) (L : List Cl) : Prop := ∀ j (h : j < L.length), ∃ (A : Option Addr) (a : Nat) (D : Option Addr) (d : Nat), cs[j * 2]? = some (.slice A L[j].l.length a) ∧ cs[j * 2 + 1]? = some (.slice D L[j].l.length d) ∧ Kp w F A D L[j].l
/-- inodes' cells -/
def ncells (L : List Cl) : List Value := L.flatMap fun c => [.int .i64 (c.k : Int), .int .i64 ((c.p : Int) - 1), .int .i64 (c.z : Int)]
theorem ncells_snoc (L : List Cl) (c : Cl) : ncells (L ++ [c]) = ncells L ++ [.int .i64 (c.k : Int), .int .i64 ((c.p : Int) - 1), .int .i64 (c.z : Int)] := by simp [ncells]
theorem ncells_get {L : List Cl} : ∀ {j : Nat} (h : j < L.length), (ncells L)[j * 3]? = some (.int .i64 (L[j].k : Int)) ∧ (ncells L)[j * 3 + 1]? = some (.int .i64 ((L[j].p : Int) - 1)) ∧ (ncells L)[j * 3 + 2]? = some (.int .i64 (L[j].z : Int)) := by
  induction L with
  | nil => intro j h; simp at h
  | cons p l ih =>
    intro j h
    cases j with
    | zero => exact ⟨rfl, rfl, rfl⟩
    | succ j =>
      have := ih (j := j) (by simpa using h)
      have e : (j + 1) * 3 = j * 3 + 1 + 1 + 1 := by omega
      rw [e]
      simpa [ncells] using this
/-- the rows, and F: blocks that aren't theirs -/
structure Fo (B : Nat) (w : World) (F : Nat → Prop) (L : List Cl) (U S : List Nat) (cs : List Value) (vI vH vU vS : Value) : Prop where
  nds : w.ownsRow B 95 3 vI L.length (ncells L)
  chs : w.ownsRow B 100 2 vH L.length cs
  blk : w.ownsRow B 3 1 vU U.length (i64s (U.map Int.ofNat))
  slt : w.ownsRow B 3 1 vS S.length (i64s (S.map Int.ofNat))
  us : ∀ k, vU.ownBlock = some k → vS.ownBlock ≠ some k
  fI : ∀ k, F k → vI.ownBlock ≠ some k
  fH : ∀ k, F k → vH.ownBlock ≠ some k
  fU : ∀ k, F k → vU.ownBlock ≠ some k
  fS : ∀ k, F k → vS.ownBlock ≠ some k
  fl : ∀ k, F k → k < w.heap.size
  con : Con w F cs L
section
variable {B : Nat} {w w' : World} {F : Nat → Prop} {L : List Cl} {U S : List Nat} {cs : List Value} {vI vH vU vS v' : Value}
theorem Con.moved (h : Con w F cs L) (hs : w.heap.size ≤ w'.heap.size) (hk : ∀ k, F k → w'.heap[k]? = w.heap[k]?) : Con w' F cs L := fun j hj => by
  obtain ⟨A, a, D, d, h1, h2, h3⟩ := h j hj
  exact ⟨A, a, D, d, h1, h2, h3.moved hs hk⟩
theorem own_lt {w : World} {B n s k : Nat} {e : TypeId} {v : Value} {xs : List Value} (h : w.ownsRow B e s v n xs) (hv : v.ownBlock = some k) : k < w.heap.size := (World.ownsRow.lt h k hv).2
/-- all is kept, and what is new is of F, too -/
theorem Fo.more (h : Fo B w F L U S cs vI vH vU vS) (hb : Below w.heap.size w w') : Fo B w' (fun k => F k ∨ (w.heap.size ≤ k ∧ k < w'.heap.size)) L U S cs vI vH vU vS := by
  refine ⟨own_keep3 h.nds hb, own_keep3 h.chs hb, own_keep3 h.blk hb, own_keep3 h.slt hb, h.us, ?_, ?_, ?_, ?_, ?_, ?_⟩
  · rintro k (hk | hk)
    · exact h.fI k hk
    · intro e; have := own_lt h.nds e; omega
  · rintro k (hk | hk)
    · exact h.fH k hk
    · intro e; have := own_lt h.chs e; omega
  · rintro k (hk | hk)
    · exact h.fU k hk
    · intro e; have := own_lt h.blk e; omega
  · rintro k (hk | hk)
    · exact h.fS k hk
    · intro e; have := own_lt h.slt e; omega
  · rintro k (hk | hk)
    · have := h.fl k hk; have := hb.size; omega
    · exact hk.2
  · intro j hj
    obtain ⟨A, a, D, d, h1, h2, h3⟩ := (h.con.moved hb.size (fun k hk => hb.block k (h.fl k hk))) j hj
    exact ⟨A, a, D, d, h1, h2, h3.sub (fun k hk => .inl hk)⟩
theorem Fo.keep (h : Fo B w F L U S cs vI vH vU vS) (hb : Below w.heap.size w w') : Fo B w' F L U S cs vI vH vU vS :=
  ⟨own_keep3 h.nds hb, own_keep3 h.chs hb, own_keep3 h.blk hb, own_keep3 h.slt hb, h.us, h.fI, h.fH, h.fU, h.fS, fun k hk => Nat.lt_of_lt_of_le (h.fl k hk) hb.size, h.con.moved hb.size (fun k hk => hb.block k (h.fl k hk))⟩
theorem grown_block {v : Value} (hg : w.grownBy w' v.ownBlock) (hF : ∀ k, F k → v.ownBlock ≠ some k) (hl : ∀ k, F k → k < w.heap.size) : ∀ k, F k → w'.heap[k]? = w.heap[k]? :=
  fun k hk => hg.block k (hl k hk) (fun e => hF k hk e.symm)
theorem grown_far {v v' : Value} (hat : v'.ownBlock = v.ownBlock ∨ v'.ownBlock = some w.heap.size) (hF : ∀ k, F k → v.ownBlock ≠ some k) (hl : ∀ k, F k → k < w.heap.size) : ∀ k, F k → v'.ownBlock ≠ some k := by
  intro k hk e
  rcases hat with h | h
  · exact hF k hk (h ▸ e)
  · rw [h] at e
    injection e with e
    have := hl k hk
    omega
theorem kept_of {B' n s : Nat} {e : TypeId} {v u : Value} {xs : List Value} (h : w.ownsRow B' e s v n xs) (hg : w.grownBy w' u.ownBlock) (hne : ∀ k, v.ownBlock = some k → u.ownBlock ≠ some k) : w'.ownsRow B' e s v n xs :=
  h.kept hg (by
    cases hv : v.ownBlock with
    | none => exact .inl rfl
    | some k => exact .inr (fun e => hne k hv e.symm))
theorem apart_of {B' n s n' s' : Nat} {e e' : TypeId} {v u : Value} {xs xs' : List Value} (h : w.ownsRow B e s v n xs) (g : w.ownsRow B' e' s' u n' xs') (he : e ≠ e') : ∀ k, v.ownBlock = some k → u.ownBlock ≠ some k := by
  intro k hv hu
  rcases Pack.rows_apart h g he with h1 | h1
  · rw [hv] at h1; cases h1
  · exact h1 (hv.trans hu.symm)
/-- a slot's number behind the others -/
theorem Fo.addS {s : Nat} (h : Fo B w F L U S cs vI vH vU vS) (hg : w.grownBy w' vS.ownBlock) (hat : v'.ownBlock = vS.ownBlock ∨ v'.ownBlock = some w.heap.size) (ho : w'.ownsRow B 3 1 v' (S.length + 1) (i64s (S.map Int.ofNat) ++ [.int .i64 (s : Int)])) : Fo B w' F L U (S ++ [s]) cs vI vH vU v' := by
  refine ⟨kept_of h.nds hg (apart_of h.nds h.slt (by decide)), kept_of h.chs hg (apart_of h.chs h.slt (by decide)), kept_of h.blk hg h.us, ?_, ?_, h.fI, h.fH, h.fU, grown_far hat h.fS h.fl, fun k hk => Nat.lt_of_lt_of_le (h.fl k hk) hg.size, h.con.moved hg.size (grown_block hg h.fS h.fl)⟩
  · unfold i64s at ho ⊢
    simp only [List.map_append, List.length_append]
    exact ho
  · intro k hk e
    rcases hat with h1 | h1
    · exact h.us k hk (h1 ▸ e)
    · rw [h1] at e
      injection e with e
      have := own_lt h.blk hk
      omega
/-- a block behind the others -/
theorem Fo.addU {s : Nat} (h : Fo B w F L U S cs vI vH vU vS) (hg : w.grownBy w' vU.ownBlock) (hat : v'.ownBlock = vU.ownBlock ∨ v'.ownBlock = some w.heap.size) (ho : w'.ownsRow B 3 1 v' (U.length + 1) (i64s (U.map Int.ofNat) ++ [.int .i64 (s : Int)])) : Fo B w' F L (U ++ [s]) S cs vI vH v' vS := by
  refine ⟨kept_of h.nds hg (apart_of h.nds h.blk (by decide)), kept_of h.chs hg (apart_of h.chs h.blk (by decide)), ?_, kept_of h.slt hg (fun k hk e => h.us k e hk), ?_, h.fI, h.fH, grown_far hat h.fU h.fl, h.fS, fun k hk => Nat.lt_of_lt_of_le (h.fl k hk) hg.size, h.con.moved hg.size (grown_block hg h.fU h.fl)⟩
  · unfold i64s at ho ⊢
    simp only [List.map_append, List.length_append]
    exact ho
  · intro k hk e
    rcases hat with h1 | h1
    · exact h.us k (h1 ▸ hk) e
    · rw [h1] at hk
      injection hk with hk
      have := own_lt h.slt e
      omega
/-- an inode and its chain behind the others -/
structure Fn (B : Nat) (w : World) (F : Nat → Prop) (L : List Cl) (c : Cl) (U S : List Nat) (cs : List Value) (vI vH vU vS : Value) : Prop where
  nds : w.ownsRow B 95 3 vI (L.length + 1) (ncells L ++ [.int .i64 (c.k : Int), .int .i64 ((c.p : Int) - 1), .int .i64 (c.z : Int)])
  chs : w.ownsRow B 100 2 vH L.length cs
  blk : w.ownsRow B 3 1 vU U.length (i64s (U.map Int.ofNat))
  slt : w.ownsRow B 3 1 vS S.length (i64s (S.map Int.ofNat))
  us : ∀ k, vU.ownBlock = some k → vS.ownBlock ≠ some k
  fI : ∀ k, F k → vI.ownBlock ≠ some k
  fH : ∀ k, F k → vH.ownBlock ≠ some k
  fU : ∀ k, F k → vU.ownBlock ≠ some k
  fS : ∀ k, F k → vS.ownBlock ≠ some k
  fl : ∀ k, F k → k < w.heap.size
  con : Con w F cs L
theorem Fo.addI {c : Cl} (h : Fo B w F L U S cs vI vH vU vS) (hg : w.grownBy w' vI.ownBlock) (hat : v'.ownBlock = vI.ownBlock ∨ v'.ownBlock = some w.heap.size) (ho : w'.ownsRow B 95 3 v' (L.length + 1) (ncells L ++ [.int .i64 (c.k : Int), .int .i64 ((c.p : Int) - 1), .int .i64 (c.z : Int)])) : Fn B w' F L c U S cs v' vH vU vS :=
  ⟨ho, kept_of h.chs hg (apart_of h.chs h.nds (by decide)), kept_of h.blk hg (apart_of h.blk h.nds (by decide)), kept_of h.slt hg (apart_of h.slt h.nds (by decide)), h.us, grown_far hat h.fI h.fl, h.fH, h.fU, h.fS, fun k hk => Nat.lt_of_lt_of_le (h.fl k hk) hg.size, h.con.moved hg.size (grown_block hg h.fI h.fl)⟩
theorem Fn.keep {c : Cl} (h : Fn B w F L c U S cs vI vH vU vS) (hb : Below w.heap.size w w') : Fn B w' F L c U S cs vI vH vU vS :=
  ⟨own_keep3 h.nds hb, own_keep3 h.chs hb, own_keep3 h.blk hb, own_keep3 h.slt hb, h.us, h.fI, h.fH, h.fU, h.fS, fun k hk => Nat.lt_of_lt_of_le (h.fl k hk) hb.size, h.con.moved hb.size (fun k hk => hb.block k (h.fl k hk))⟩
theorem Fn.addH {c : Cl} {A D : Option Addr} {a d : Nat} (h : Fn B w F L c U S cs vI vH vU vS) (hk : Kp w F A D c.l) (hg : w.grownBy w' vH.ownBlock) (hat : v'.ownBlock = vH.ownBlock ∨ v'.ownBlock = some w.heap.size) (ho : w'.ownsRow B 100 2 v' (L.length + 1) (cs ++ [.slice A c.l.length a, .slice D c.l.length d])) : Fo B w' F (L ++ [c]) U S (cs ++ [.slice A c.l.length a, .slice D c.l.length d]) vI v' vU vS := by
  have hcl : cs.length = L.length * 2 := h.chs.1
  have e : (L ++ [c]).length = L.length + 1 := by simp
  refine ⟨?_, by rw [e]; exact ho, kept_of h.blk hg (apart_of h.blk h.chs (by decide)), kept_of h.slt hg (apart_of h.slt h.chs (by decide)), h.us, h.fI, grown_far hat h.fH h.fl, h.fU, h.fS, fun k hk => Nat.lt_of_lt_of_le (h.fl k hk) hg.size, ?_⟩
  · rw [e, ncells_snoc]
    exact kept_of h.nds hg (apart_of h.nds h.chs (by decide))
  · have hm := h.con.moved hg.size (grown_block hg h.fH h.fl)
    intro j hj
    by_cases hlt : j < L.length
    · obtain ⟨A', a', D', d', h1, h2, h3⟩ := hm j hlt
      rw [List.getElem_append_left hlt]
      exact ⟨A', a', D', d', by rw [List.getElem?_append_left (by omega)]; exact h1, by rw [List.getElem?_append_left (by omega)]; exact h2, h3⟩
    · obtain rfl : j = L.length := by omega
      rw [List.getElem_concat_length rfl]
      exact ⟨A, a, D, d, by rw [List.getElem?_append_right (by omega), hcl]; simp, by rw [List.getElem?_append_right (by omega), hcl]; simp, hk.moved hg.size (grown_block hg h.fH h.fl)⟩
end
/-- rows of claims as they lie -/
theorem own_block {W : World} {B n c s : Nat} {t : TypeId} {G : Option Addr} {xs : List Value} (h : W.ownsRow B t s (.slice G n c) n xs) (hn : 0 < n) : ∃ g, G = some ⟨g, 0, none⟩ ∧ g < W.heap.size ∧ ∀ i, i < n * s → W.cell? ⟨g, 0 + i, none⟩ = xs[i]? := by
  rcases h.2 with ⟨e, h0⟩ | ⟨g, cap, cur, e, hB, hh, _, _, _, ht⟩
  · omega
  · injection e with e
    subst e
    refine ⟨g, rfl, Pm.lt_of_some hh, fun i hi => ?_⟩
    have := congrArg (·[i]?) ht
    simp only [List.getElem?_take, hi, if_true] at this
    rw [← this]
    simp [World.cell?, hh]
theorem Fo.rc {B : Nat} {w : World} {F : Nat → Prop} {L : List Cl} {U S : List Nat} {cs : List Value} {I H : Option Addr} {ic hc : Nat} {vU vS : Value} (h : Fo B w F L U S cs (.slice I L.length ic) (.slice H L.length hc) vU vS) : Rc w I H L := by
  refine ⟨fun j hj => ?_, fun j hj => ?_⟩
  · obtain ⟨g, e, hg, hc⟩ := own_block h.nds (by omega)
    obtain ⟨n0, n1, n2⟩ := ncells_get hj
    exact ⟨g, 0, e, hg, (hc (j * 3) (by omega)).trans n0, by rw [Nat.add_assoc]; exact (hc (j * 3 + 1) (by omega)).trans n1, by rw [Nat.add_assoc]; exact (hc (j * 3 + 2) (by omega)).trans n2⟩
  · obtain ⟨g, e, hg, hc⟩ := own_block h.chs (by omega)
    obtain ⟨A, a, D, d, h1, h2, h3⟩ := h.con j hj
    exact ⟨g, 0, e, hg, A, a, D, d, (hc (j * 2) (by omega)).trans h1, by rw [Nat.add_assoc]; exact (hc (j * 2 + 1) (by omega)).trans h2, h3.nts, h3.prt⟩
end Clm
end Go.Proofs.YtilolepbfmcbgaaGreatDoor
/- What a round of the document's Scan keeps. -/
namespace Go.Proofs.YtilolepbfmcbgaaGreatDoor
open Go.RowKit Go.MapKept
namespace Clm
open Chn (Pt New Prt slots slots_len Mays tot blk blk_len own_keep3 rd pat fw RrN rread_new rblocks_new)
open Vol (Hb hb_new hb_grown hb_apart dv Pl rdw)
open Pack (Nts i64s int_info)
open Lin (take_yes take_no)

theorem fo_nil (B : Nat) (w : World) : Fo B w (fun _ => False) [] (bl []) (sl []) [] (.slice none 0 0) (.slice none 0 0) (.slice none 0 0) (.slice none 0 0) :=
  ⟨World.ownsRow_nil .., World.ownsRow_nil .., World.ownsRow_nil .., World.ownsRow_nil .., (fun _ e => by cases e), fun _ h => absurd h id, fun _ h => absurd h id, fun _ h => absurd h id, fun _ h => absurd h id, fun _ h => absurd h id, fun j h => absurd h (Nat.not_lt_zero _)⟩
/-- what the document's Scan leaves -/
def RsTo (W : List Nat) (n m s : Nat) (w : World) (r : Ending) (w' : World) : Prop :=
  (scn (gi W n m s) m = none ∧ r = .returned (.tuple #[.agg #[.int .i64 0, .slice none 0 0, .slice none 0 0], .bool false]) ∧ Below w.heap.size w w') ∨
  (∃ L I ic H hc, scn (gi W n m s) m = some L ∧ r = .returned (.tuple #[.agg #[.int .i64 (n : Int), .slice I L.length ic, .slice H L.length hc], .bool true]) ∧ Rc w' I H L ∧ Below w.heap.size w w')
/-- the boxes of the document's Scan under way -/
structure Rb (w : World) (D : Array Value) (n kk ic hc : Nat) (I H : Option Addr) (wr : World) : Prop where
  vol : Hb wr w.heap.size D 30
  res : Hb wr (w.heap.size + 1) #[.int .i64 0, .slice none 0 0, .slice none 0 0] 40
  box : Hb wr (w.heap.size + 1 + 1) #[.int .i64 (n : Int), .slice I kk ic, .slice H kk hc] 40
  below : Below w.heap.size w wr
theorem Rb.keep {w w1 w2 : World} {D : Array Value} {n k ic hc : Nat} {I H : Option Addr} (h : Rb w D n k ic hc I H w1) (hb : Below w1.heap.size w1 w2) : Rb w D n k ic hc I H w2 :=
  ⟨h.vol.keep hb, h.res.keep hb, h.box.keep hb, h.below.trans (hb.mono h.below.size)⟩
theorem hb_far3 {w : World} {b : Nat} {cs : Array Value} {t e : TypeId} {B n s : Nat} {v : Value} {xs : List Value} (h : Hb w b cs t) (ho : w.ownsRow B e s v n xs) (ht : e ≠ t) : v.ownBlock ≠ some b := Chn.hb_apart3 h ho ht
theorem Rb.grown {w w1 w2 : World} {D : Array Value} {n kk ic hc B s q : Nat} {I H : Option Addr} {e : TypeId} {v : Value} {xs : List Value} (h : Rb w D n kk ic hc I H w1) (ho : w1.ownsRow B e s v q xs) (hB : w.heap.size ≤ B) (hg : w1.grownBy w2 v.ownBlock) (h1 : e ≠ 30) (h2 : e ≠ 40) : Rb w D n kk ic hc I H w2 :=
  ⟨hb_grown h.vol hg (hb_far3 h.vol ho h1), hb_grown h.res hg (hb_far3 h.res ho h2), hb_grown h.box hg (hb_far3 h.box ho h2), h.below.grown hg h.below.size (fun _ hk => Nat.le_trans hB (Chn.row_base_lt3 ho hk))⟩
theorem few_in {X : List Nat} {n : Nat} (h : X.Nodup) (hn : ∀ x ∈ X, x < n) : X.length ≤ n := by
  have := List.Nodup.length_le_of_subset (l₁ := X) (l₂ := List.range n) h (fun x hx => List.mem_range.2 (hn x hx))
  simpa using this
theorem cells_two_new (w : World) (x y : Value) (t : TypeId) : ∀ j u, [x, y][j]? = some u → (w.alloc (.cells #[x, y] t)).cell? ((⟨w.heap.size, 0, none⟩ : Addr).add j) = some u := by
  intro j u hj
  match j, hj with
  | 0, hj =>
    simp at hj
    subst hj
    simp [Addr.add]
  | 1, hj =>
    simp at hj
    subst hj
    simp [Addr.add]
section
variable {B : Nat} {w w' : World} {F : Nat → Prop} {L : List Cl} {c : Cl} {U S : List Nat} {cs : List Value} {vI vH vU vS v' : Value} {b i : Nat} {t : TypeId} {X : Array Value}
/-- a box is stored to -/
theorem Fo.set (h : Fo B w F L U S cs vI vH vU vS) (hb : Hb w b X t) (h1 : 95 ≠ t) (h2 : 100 ≠ t) (h3 : 3 ≠ t) (hF : ¬ F b) (u : Value) : Fo B (w.setCell ⟨b, i, none⟩ u) F L U S cs vI vH vU vS :=
  ⟨Chn.own_far h.nds hb h1 u, Chn.own_far h.chs hb h2 u, Chn.own_far h.blk hb h3 u, Chn.own_far h.slt hb h3 u, h.us, h.fI, h.fH, h.fU, h.fS, fun k hk => by have := h.fl k hk; simpa [World.setCell] using this,
   h.con.moved (by simp [World.setCell]) (fun k hk => Below.heap_setCell w _ _ k (fun e : k = b => hF (e ▸ hk)))⟩
theorem Fn.set (h : Fn B w F L c U S cs vI vH vU vS) (hb : Hb w b X t) (h1 : 95 ≠ t) (h2 : 100 ≠ t) (h3 : 3 ≠ t) (hF : ¬ F b) (u : Value) : Fn B (w.setCell ⟨b, i, none⟩ u) F L c U S cs vI vH vU vS :=
  ⟨Chn.own_far h.nds hb h1 u, Chn.own_far h.chs hb h2 u, Chn.own_far h.blk hb h3 u, Chn.own_far h.slt hb h3 u, h.us, h.fI, h.fH, h.fU, h.fS, fun k hk => by have := h.fl k hk; simpa [World.setCell] using this,
   h.con.moved (by simp [World.setCell]) (fun k hk => Below.heap_setCell w _ _ k (fun e : k = b => hF (e ▸ hk)))⟩
end
/-- all that a round of the document's Scan keeps -/
structure Ro (w : World) (D : Array Value) (n : Nat) (F : Nat → Prop) (L : List Cl) (U S : List Nat) (cs : List Value) (I : Option Addr) (ic : Nat) (H : Option Addr) (hc : Nat) (vU vS : Value) (xb : Nat) (X : Array Value) (yb : Nat) (Y : Array Value) (A Dd : Option Addr) (l : List Pt) (G : Option Addr) (gl : List Int) (wr : World) : Prop where
  fo : Fo w.heap.size wr F L U S cs (.slice I L.length ic) (.slice H L.length hc) vU vS
  rb : Rb w D n L.length ic hc I H wr
  nb : Hb wr xb X 95
  xx : Hb wr yb Y 100
  kp : Kp wr F A Dd l
  gn : Nts wr G gl
  gf : gl ≠ [] → ∀ x, G = some x → F x.block
section
variable {w wr w' : World} {D : Array Value} {n : Nat} {F : Nat → Prop} {L : List Cl} {U S : List Nat} {cs : List Value} {I : Option Addr} {ic : Nat} {H : Option Addr} {hc : Nat} {vU vS v' : Value} {xb : Nat} {X : Array Value} {yb : Nat} {Y : Array Value} {A Dd : Option Addr} {l : List Pt} {G : Option Addr} {gl : List Int}
theorem Ro.keep (h : Ro w D n F L U S cs I ic H hc vU vS xb X yb Y A Dd l G gl wr) (hb : Below wr.heap.size wr w') : Ro w D n F L U S cs I ic H hc vU vS xb X yb Y A Dd l G gl w' :=
  ⟨h.fo.keep hb, h.rb.keep hb, h.nb.keep hb, h.xx.keep hb, h.kp.moved hb.size (fun k hk => hb.block k (h.fo.fl k hk)), h.gn.keep hb, h.gf⟩
theorem Ro.addS {s : Nat} (h : Ro w D n F L U S cs I ic H hc vU vS xb X yb Y A Dd l G gl wr) (hg : wr.grownBy w' vS.ownBlock) (hat : v'.ownBlock = vS.ownBlock ∨ v'.ownBlock = some wr.heap.size) (ho : w'.ownsRow w.heap.size 3 1 v' (S.length + 1) (i64s (S.map Int.ofNat) ++ [.int .i64 (s : Int)])) : Ro w D n F L U (S ++ [s]) cs I ic H hc vU v' xb X yb Y A Dd l G gl w' :=
  ⟨h.fo.addS hg hat ho, h.rb.grown h.fo.slt (Nat.le_refl _) hg (by decide) (by decide), hb_grown h.nb hg (hb_far3 h.nb h.fo.slt (by decide)), hb_grown h.xx hg (hb_far3 h.xx h.fo.slt (by decide)), h.kp.moved hg.size (grown_block hg h.fo.fS h.fo.fl), nts_moved h.gn h.gf hg.size (grown_block hg h.fo.fS h.fo.fl), h.gf⟩
theorem Ro.addU {s : Nat} (h : Ro w D n F L U S cs I ic H hc vU vS xb X yb Y A Dd l G gl wr) (hg : wr.grownBy w' vU.ownBlock) (hat : v'.ownBlock = vU.ownBlock ∨ v'.ownBlock = some wr.heap.size) (ho : w'.ownsRow w.heap.size 3 1 v' (U.length + 1) (i64s (U.map Int.ofNat) ++ [.int .i64 (s : Int)])) : Ro w D n F L (U ++ [s]) S cs I ic H hc v' vS xb X yb Y A Dd l G gl w' :=
  ⟨h.fo.addU hg hat ho, h.rb.grown h.fo.blk (Nat.le_refl _) hg (by decide) (by decide), hb_grown h.nb hg (hb_far3 h.nb h.fo.blk (by decide)), hb_grown h.xx hg (hb_far3 h.xx h.fo.blk (by decide)), h.kp.moved hg.size (grown_block hg h.fo.fU h.fo.fl), nts_moved h.gn h.gf hg.size (grown_block hg h.fo.fU h.fo.fl), h.gf⟩
end
theorem few_ints {X : List Nat} {n : Nat} (hn : n ≤ 1000) {w : World} {B c : Nat} {A : Option Addr} (h : w.ownsRow B 3 1 (.slice A X.length c) X.length (i64s (X.map Int.ofNat))) (hx : ∀ x ∈ X, x < n) (hl : X.length ≤ 1000) : Nts w A (X.map Int.ofNat) :=
  Pack.own_nts h (fun y hy => by
    obtain ⟨x, hx', rfl⟩ := List.mem_map.1 hy
    have := hx x hx'
    simp only [Int.ofNat_eq_natCast]
    omega) (by omega)
theorem ints_mem {X : List Nat} {s : Nat} : (s : Int) ∈ X.map Int.ofNat ↔ s ∈ X := by
  rw [List.mem_map]
  constructor
  · rintro ⟨x, hx, e⟩
    have e : (x : Int) = (s : Int) := e
    obtain rfl : x = s := by omega
    exact hx
  · intro h
    exact ⟨s, h, rfl⟩
theorem nodup_more {X Y : List Nat} {t : Nat} (h : (X ++ Y.take t).Nodup) (ht : t < Y.length) (hn : Y[t] ∉ X ++ Y.take t) : (X ++ Y.take (t + 1)).Nodup := by
  rw [List.take_succ_eq_append_getElem ht, ← List.append_assoc, List.nodup_append]
  refine ⟨h, by simp, fun a ha b hb e => ?_⟩
  obtain rfl : b = Y[t] := by simpa using hb
  exact hn (e ▸ ha)
theorem nodup_less {X Y : List Nat} {t : Nat} (ht : t < Y.length) (hn : Y[t] ∈ X ++ Y.take t) : ¬ (X ++ Y).Nodup := fun h => by
  have e : X ++ Y = (X ++ Y.take t) ++ Y.drop t := by rw [List.append_assoc, List.take_append_drop]
  rw [e, List.nodup_append] at h
  refine h.2.2 _ hn Y[t] ?_ rfl
  rw [List.drop_eq_getElem_cons ht]
  exact List.mem_cons_self
end Clm
end Go.Proofs.YtilolepbfmcbgaaGreatDoor
