/- The document's map of words. -/
import Derived.Test.YthfnbboambpdgaaDoorBmOf
namespace Go.Proofs.YthfnbboambpdgaaDoor
open Go.RowKit Go.MapKept
namespace Bm
open Pack (Wds Nts)

theorem bls_step (f : Nat → Bool) (t : Nat) : bls f (t + 1) = bls f t ++ [.bool (f t)] := by
  unfold bls
  rw [List.range_succ, List.map_append]
  rfl
theorem own_bls {W : World} {B n c q : Nat} {G : Option Addr} {f : Nat → Bool} (h : W.ownsRow B 4 1 (.slice G n c) n (bls f n)) (hq : q < B) : Bls W q G n f :=
  ⟨fun j hj => by
    rcases h.2 with ⟨e, h0⟩ | ⟨g, cap, cur, e, hg, hh, _, _, _, ht⟩
    · omega
    · injection e with e
      subst e
      refine ⟨g, 0, rfl, (Array.getElem?_eq_some_iff.1 hh).1, by omega, ?_⟩
      have := congrArg (·[j]?) ht
      simp only [Nat.mul_one] at this
      rw [List.getElem?_take, if_pos hj, bls_get f n j hj] at this
      unfold World.cell?
      rw [hh, Nat.zero_add]
      simp only
      rw [← Array.getElem?_toList]
      exact this⟩

/-- what the document's Of answers of words of the right count -/
def RefR (w : World) (q n : Nat) (l : List Nat) (e : Ending) (w' : World) : Prop :=
  (Good n l ∧ ∃ (A : Option Addr) (c : Nat), e = .returned (.tuple #[.slice A n c, .bool true]) ∧ Bls w' q A n (fo n l) ∧ Below w.heap.size w w') ∨
  (¬ Good n l ∧ e = .returned (.tuple #[.slice none 0 0, .bool false]) ∧ Below w.heap.size w w')

section
variable {w : World}
set_option maxRecDepth 100000 in
set_option maxHeartbeats 1000000 in
theorem refOf_far (n : Int) (A : Option Addr) (k c : Nat) (hn : n < 0 ∨ 65534 < n) : Calls Tryd.prog 19 #[.int .i64 n, .slice A k c] w fun e w' => e = .returned (.tuple #[.slice none 0 0, .bool false]) ∧ w = w' := by
  by_cases h0 : n < 0
  · clear hn
    go_enter Tryd.func19, Tryd.ntmps19
    go_wp2
    go_ret2
    exact ⟨rfl, rfl⟩
  · have h1 : 65534 < n := by omega
    clear hn
    go_enter Tryd.func19, Tryd.ntmps19
    go_wp2
    go_ret2
    exact ⟨rfl, rfl⟩
set_option maxRecDepth 100000 in
set_option maxHeartbeats 1000000 in
theorem refOf_len (n : Nat) (A : Option Addr) (k c : Nat) (hn : n ≤ 65534) (hne : k ≠ (n + 63) / 64) : Calls Tryd.prog 19 #[.int .i64 (n : Int), .slice A k c] w fun e w' => e = .returned (.tuple #[.slice none 0 0, .bool false]) ∧ w = w' := by
  have h0 : ¬ (n : Int) < 0 := by omega
  have h1 : ¬ (65534 : Int) < (n : Int) := by omega
  obtain ⟨K, hK⟩ : ∃ K, K = (n + 63) / 64 := ⟨_, rfl⟩
  have hq : ((n : Int) + 63) / 64 = (K : Int) := by omega
  have h2 : ((k : Int) == (K : Int)) = false := by simp; omega
  have h3 : ((k : Int) != (K : Int)) = true := by simp; omega
  clear hne hK
  go_enter Tryd.func19, Tryd.ntmps19
  go_wp2
  go_ret2
  exact ⟨rfl, rfl⟩

theorem bit_and (x r : Nat) (hx : x < 18446744073709551616) : bits BinOp.and IntKind.u64 ((x : Int) / 2 ^ r) 1 = ((if x.testBit r then 1 else 0 : Nat) : Int) := by
  rw [show (x : Int) / 2 ^ r = ((x / 2 ^ r : Nat) : Int) by simp]
  have hl : x / 2 ^ r < 18446744073709551616 := Nat.lt_of_le_of_lt (Nat.div_le_self _ _) hx
  have := u64_and_nat (x / 2 ^ r) 1 hl (by decide)
  rw [show (1 : Int) = ((1 : Nat) : Int) from rfl, this, nat_mask1, Nat.testBit_eq_decide_div_mod_eq]
  have h2 : x / 2 ^ r % 2 = 0 ∨ x / 2 ^ r % 2 = 1 := by omega
  rcases h2 with h | h <;> simp [h]

set_option maxRecDepth 100000 in
set_option maxHeartbeats 3000000 in
theorem refOf_any (q n : Nat) (A : Option Addr) (c : Nat) (l : List Nat) (h : Wds w A l) (hn : n ≤ 65534) (hl : l.length = (n + 63) / 64) (hq : q < w.heap.size) : Calls Tryd.prog 19 #[.int .i64 (n : Int), .slice A l.length c] w (RefR w q n l) := by
  have h0 : ¬ (n : Int) < 0 := by omega
  have h1 : ¬ (65534 : Int) < (n : Int) := by omega
  obtain ⟨K, hK⟩ : ∃ K, K = (n + 63) / 64 := ⟨_, rfl⟩
  have hqq : ((n : Int) + 63) / 64 = (K : Int) := by omega
  have hk1 : n ≤ 64 * K := by omega
  have hk2 : K ≤ 1024 := by omega
  rw [← hK] at hl
  have H := Lib.hid h
  have HL := Lib.hid hl
  rw [hl]
  clear h hl hK
  obtain ⟨i0, hi0, hz0, hz1, hz2⟩ := info_parts bool_info
  go_enter Tryd.func19, Tryd.ntmps19
  go_wp2_with fail
  clear hqq
  go_loopw [6, 26] (fun a i wr => ∃ (k t : Nat) (G : Option Addr) (gc : Nat), k ≤ 64 * K ∧ t = min k n ∧ i = .int .i64 (k : Int) ∧ a = .slice G t gc ∧ wr.ownsRow w.heap.size 4 1 (.slice G t gc) t (bls (fo n l) t) ∧ (∀ j, n ≤ j → j < k → bitAt l j = false) ∧ Below w.heap.size w wr) (fun _ i _ => 64 * K - (intOf i).toNat)
  case atStart => exact ⟨0, 0, none, 0, Nat.zero_le _, by omega, rfl, rfl, World.ownsRow_nil _ _ _ _, fun j _ h => by omega, Below.refl _ _⟩
  case round =>
    obtain ⟨k, t, G, gc, hk, ht, rfl, rfl, hown, hpre, hbel⟩ := hrel
    have HP := Lib.hid hpre
    have HLL := Lib.hid HL.out
    clear hpre
    by_cases hlt : k < 64 * K
    · have hd : k / 64 < l.length := by rw [HLL.out]; omega
      obtain ⟨b, o, rfl, hb, hcell0⟩ := H.out.at' (k / 64) hd
      have hcell := (hbel.cell (p := ⟨b, o + k / 64, none⟩) hb).trans hcell0
      have hx := H.out.u64 _ (List.getElem_mem hd)
      have hba : bitAt l k = l[k / 64].testBit (k % 64) := by
        unfold bitAt
        rw [List.getD_eq_getElem?_getD, List.getElem?_eq_getElem hd, Option.getD_some]
      have hand := bit_and l[k / 64] (k % 64) hx
      rw [← hba] at hand
      have hdK : k / 64 < K := by omega
      have he : (k : Int) / 64 = ((k / 64 : Nat) : Int) := rfl
      have hm : (k : Int) % 64 = ((k % 64 : Nat) : Int) := rfl
      have hr64 : k % 64 < 64 := by omega
      have HF := Lib.hid (show k < n → fo n l k = bitAt l k from fun hkn => by unfold fo; rw [decide_eq_true hkn]; rfl)
      clear hcell0 hba
      generalize l[k / 64] = x at *
      clear hx hd
      generalize k % 64 = r at *
      generalize k / 64 = d at *
      have hi0' : (0 : Int) ≤ (d : Int) := by omega
      have hi1 : (d : Int) < (K : Int) := by omega
      have hr0 : (0 : Int) ≤ (r : Int) := by omega
      have hr1 : (r : Int) < 64 := by omega
      have hlt2 : (k : Int) < 64 * (K : Int) := by omega
      by_cases hkn : k < n
      · have hge : ¬ (n : Int) ≤ (k : Int) := by omega
        have htk : t = k := by omega
        subst htk
        have HB := Lib.hid (bls_step (fo n l) t)
        rw [HF.out hkn] at HB
        have HX := Lib.hid (hown.alloc (.cells #[.bool (bitAt l t)] 4))
        have HBX := Lib.hid (hbel.alloc hbel.size (.cells #[.bool (bitAt l t)] 4))
        have hsz := hbel.size
        clear hown hbel HF ht
        generalize bitAt l t = v at *
        cases v with
        | true =>
          simp only [if_true] at hand
          have hand2 : bits BinOp.and IntKind.u64 ((x : Int) / 2 ^ r) 1 = 1 := hand
          clear hand
          go_wp2_with (at_builtin
                       refine wpList_append_own_at _ rfl (.tmp 43) (.tmp 45) 27 rfl w.heap.size 4 i0 (.bool false) 1 1 Tryd.underlying27 hi0 hz0 hz1 hz2 rfl (by decide) (.slice G t gc) t (bls (fo n l) t) rfl HX.out ⟨wr.heap.size, 0, none⟩ 1 1 [.bool true] rfl rfl (cell_one_new _ _ _) (by simp [Value.oneCell']) (by unfold maxLen; omega) (by omega) (by simp; omega) ?_
                       intro v' w3 hown3 hgr3 _ hat3
                       obtain ⟨G', gc', rfl⟩ := Pack.row_slice hown3
                       have HO := Lib.hid hown3
                       have HB3 := Lib.hid (HBX.out.grown hgr3 (by simp; omega) (fun k hk => Pack.row_base_lt HX.out hk))
                       clear hown3 hgr3 hat3)
          refine ⟨⟨t + 1, t + 1, G', gc', by omega, by omega, by go_num, rfl, by rw [HB.out]; exact HO.out, fun j h1 h2 => by omega, HB3.out⟩, by simp [intOf]; omega⟩
        | false =>
          simp only [Bool.false_eq_true, if_false] at hand
          have hand2 : bits BinOp.and IntKind.u64 ((x : Int) / 2 ^ r) 1 = 0 := hand
          clear hand
          go_wp2_with (at_builtin
                       refine wpList_append_own_at _ rfl (.tmp 43) (.tmp 45) 27 rfl w.heap.size 4 i0 (.bool false) 1 1 Tryd.underlying27 hi0 hz0 hz1 hz2 rfl (by decide) (.slice G t gc) t (bls (fo n l) t) rfl HX.out ⟨wr.heap.size, 0, none⟩ 1 1 [.bool false] rfl rfl (cell_one_new _ _ _) (by simp [Value.oneCell']) (by unfold maxLen; omega) (by omega) (by simp; omega) ?_
                       intro v' w3 hown3 hgr3 _ hat3
                       obtain ⟨G', gc', rfl⟩ := Pack.row_slice hown3
                       have HO := Lib.hid hown3
                       have HB3 := Lib.hid (HBX.out.grown hgr3 (by simp; omega) (fun k hk => Pack.row_base_lt HX.out hk))
                       clear hown3 hgr3 hat3)
          refine ⟨⟨t + 1, t + 1, G', gc', by omega, by omega, by go_num, rfl, by rw [HB.out]; exact HO.out, fun j h1 h2 => by omega, HB3.out⟩, by simp [intOf]; omega⟩
      · have hge : (n : Int) ≤ (k : Int) := by omega
        have htk : t = n := by omega
        subst htk
        have HO := Lib.hid hown
        have HBW := Lib.hid hbel
        clear hown hbel HF ht
        cases hv : bitAt l k with
        | true =>
          rw [hv] at hand
          simp only [if_true] at hand
          have hand2 : bits BinOp.and IntKind.u64 ((x : Int) / 2 ^ r) 1 = 1 := hand
          have HX := Lib.hid (show RefR w q t l (.returned (.tuple #[.slice none 0 0, .bool false])) wr from .inr ⟨(fun hg => by
            have := hg k (by omega) (by rw [HLL.out]; exact hlt)
            rw [hv] at this
            cases this), rfl, HBW.out⟩)
          clear hand hv
          go_wp2
          go_ret2
          exact HX.out
        | false =>
          rw [hv] at hand
          simp only [Bool.false_eq_true, if_false] at hand
          have hand2 : bits BinOp.and IntKind.u64 ((x : Int) / 2 ^ r) 1 = 0 := hand
          have HN := Lib.hid (fun j (h1 : t ≤ j) (h2 : j < k + 1) => show bitAt l j = false by
            by_cases e : j = k
            · subst e; exact hv
            · exact HP.out j h1 (by omega))
          clear hand hv
          go_wp2
          refine ⟨⟨k + 1, t, G, gc, by omega, by omega, by go_num, rfl, HO.out, HN.out, HBW.out⟩, by simp [intOf]; omega⟩
    · obtain rfl : t = n := by omega
      have HX := Lib.hid (show RefR w q t l (.returned (.tuple #[.slice G t gc, .bool true])) wr from .inl ⟨fun i h1 h2 => HP.out i h1 (by rw [HLL.out] at h2; omega), G, gc, rfl, own_bls hown hq, hbel⟩)
      have hlt2 : ¬ (k : Int) < 64 * (K : Int) := by omega
      clear hown hbel ht
      go_wp2
      go_ret2
      exact HX.out
end
end Bm
end Go.Proofs.YthfnbboambpdgaaDoor
