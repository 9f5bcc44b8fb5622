/- Rows of runs that grow; all free runs; how many blocks they have. -/
import Derived.Test.YtblibjjnbbleeaaDoorRunFit
import Derived.Deep.OwnRows
namespace Go.Proofs.YtblibjjnbbleeaaDoor
open Go.RowKit Go.MapKept
namespace Rn
open Bm

/-- runs as cells -/
def rcells (l : List Run) : List Value := l.flatMap fun r => [.int .i64 (r.1 : Int), .int .i64 (r.2 : Int)]
theorem rcells_get {l : List Run} : ∀ {j : Nat} (h : j < l.length), (rcells l)[j * 2]? = some (.int .i64 (l[j].1 : Int)) ∧ (rcells l)[j * 2 + 1]? = some (.int .i64 (l[j].2 : Int)) := by
  induction l with
  | nil => intro j h; simp at h
  | cons f l ih =>
    intro j h
    cases j with
    | zero => exact ⟨rfl, rfl⟩
    | succ j =>
      have := ih (j := j) (by simpa using h)
      have e : (j + 1) * 2 = j * 2 + 1 + 1 := by omega
      rw [e]
      simpa [rcells] using this
theorem rcells_len (l : List Run) : (rcells l).length = l.length * 2 := by
  induction l with
  | nil => rfl
  | cons f l ih => simp only [rcells, List.flatMap_cons, List.length_append, List.length_cons, List.length_nil] at *; omega
theorem rcells_snoc (l : List Run) (r : Run) : rcells (l ++ [r]) = rcells l ++ [.int .i64 (r.1 : Int), .int .i64 (r.2 : Int)] := by
  unfold rcells
  rw [List.flatMap_append]
  simp
theorem own_rs {W : World} {B n c : Nat} {t : TypeId} {G : Option Addr} {l : List Run} (h : W.ownsRow B t 2 (.slice G n c) n (rcells l)) : Rs W B G l ∧ l.length = n := by
  have hl : l.length = n := by
    have := h.1
    rw [rcells_len] at this
    omega
  refine ⟨⟨fun j hj => ?_⟩, hl⟩
  obtain ⟨f0, f1⟩ := rcells_get hj
  rcases h.2 with ⟨e, h0⟩ | ⟨g, cap, cur, e, hB, hh, _, _, _, ht⟩
  · omega
  · injection e with e
    subst e
    have key : ∀ i, i < n * 2 → W.cell? ⟨g, 0 + i, none⟩ = (rcells l)[i]? := fun i hi => by
      have := congrArg (·[i]?) ht
      rw [List.getElem?_take, if_pos hi] at this
      unfold World.cell?
      rw [hh, Nat.zero_add]
      simp only
      rw [← Array.getElem?_toList]
      exact this
    exact ⟨g, 0, rfl, (Array.getElem?_eq_some_iff.1 hh).1, hB, (key _ (by omega)).trans f0, (key (j * 2 + 1) (by omega)).trans f1⟩
theorem row_slice2 {B n : Nat} {W : World} {e : TypeId} {v : Value} {xs : List Value} (h : W.ownsRow B e 2 v n xs) : ∃ G c, v = .slice G n c := by
  rcases h.2 with ⟨e, h0⟩ | ⟨g, cap, cur, e, _⟩
  · exact ⟨none, 0, by rw [e, h0]⟩
  · exact ⟨_, _, e⟩
theorem row_base_lt2 {w : World} {B : Nat} {e : TypeId} {n : Nat} {v : Value} {xs : List Value} (h : w.ownsRow B e 2 v n xs) {g : Nat} (hg : v.ownBlock = some g) : B ≤ g := (World.ownsRow.lt h g hg).1
/-- a row of the call's own stays -/
theorem own_keepN2 {w w' : World} {B N n : Nat} {t : TypeId} {v : Value} {xs : List Value} (h : w.ownsRow B t 2 v n xs) (hb : Below N w w') (hN : ∀ g, v.ownBlock = some g → g < N) : w'.ownsRow B t 2 v n xs := by
  rcases h with ⟨h1, h2⟩
  refine ⟨h1, ?_⟩
  rcases h2 with h0 | ⟨g, cap, cur, e, hB, hh, hr⟩
  · exact .inl h0
  · exact .inr ⟨g, cap, cur, e, hB, (hb.block g (hN g (by rw [e]; rfl))).trans hh, hr⟩
theorem own_keep2 {w w' : World} {B n : Nat} {t : TypeId} {v : Value} {xs : List Value} (h : w.ownsRow B t 2 v n xs) (hb : Below w.heap.size w w') : w'.ownsRow B t 2 v n xs :=
  own_keepN2 h hb (fun g hg => (World.ownsRow.lt h g hg).2)
theorem Own2.grown {w w' : World} {b : Nat} {x y : Int} {row : Option Nat} (h : Own2 w b x y) (hg : w.grownBy w' row) (hne : some b ≠ row) : Own2 w' b x y :=
  ⟨Nat.lt_of_lt_of_le h.lt hg.size, hg.cell h.c0 hne, hg.cell h.c1 hne, fun o => (World.frozen?_of_block (w := w) (a := ⟨b, o, none⟩) (hg.block b h.lt hne)).trans (h.f o)⟩

/-- the last run of a row of the call's own is longer -/
theorem own_last {W : World} {B n c g : Nat} {t : TypeId} {S : List Run} {a x x' : Nat} (h : W.ownsRow B t 2 (.slice (some ⟨g, 0, none⟩) n c) n (rcells (S ++ [(a, x)]))) :
    (W.setCell ⟨g, S.length * 2 + 1, none⟩ (.int .i64 (x' : Int))).ownsRow B t 2 (.slice (some ⟨g, 0, none⟩) n c) n (rcells (S ++ [(a, x')])) := by
  obtain ⟨h1, h2⟩ := h
  have hn : n = S.length + 1 := by
    rw [rcells_len, List.length_append] at h1
    simp only [List.length_cons, List.length_nil] at h1
    omega
  rcases h2 with ⟨e, _⟩ | ⟨g', cap, cur, e, hB, hh, hc, hm, hsz, ht⟩
  · cases e
  · injection e with e _ e2
    subst e2
    injection e with e
    injection e with e
    subst e
    have hr : W.rowIs g t cur.size (fun i => cur[i]?.getD (.bool false)) := ⟨cur, hh, rfl, fun i hi => by simp [hi]⟩
    obtain ⟨cur', hh', hsz', hg'⟩ := hr.set (S.length * 2 + 1) (.int .i64 (x' : Int))
    refine ⟨by rw [rcells_len, List.length_append, hn]; rfl, .inr ⟨g, c, cur', rfl, hB, hh', hc, hm, hsz'.trans hsz, ?_⟩⟩
    apply List.ext_getElem?
    intro i
    have key := congrArg (·[i]?) ht
    simp only [List.getElem?_take] at key
    rw [rcells_snoc] at key ⊢
    rw [List.getElem?_take]
    split
    · rename_i hi
      rw [if_pos hi, Array.getElem?_toList] at key
      rw [Array.getElem?_toList, hg' i (by omega)]
      show some (if i = S.length * 2 + 1 then Value.int .i64 (x' : Int) else cur[i]?.getD (.bool false)) = _
      by_cases hii : i = S.length * 2 + 1
      · subst hii
        rw [if_pos rfl, List.getElem?_append_right (by rw [rcells_len]; omega), rcells_len, show S.length * 2 + 1 - S.length * 2 = 1 by omega]
        rfl
      · rw [if_neg hii, key]
        by_cases hlt : i < S.length * 2
        · rw [List.getElem?_append_left (by rw [rcells_len]; exact hlt), List.getElem?_append_left (by rw [rcells_len]; exact hlt), List.getElem?_eq_getElem (by rw [rcells_len]; exact hlt)]
          rfl
        · obtain rfl : i = S.length * 2 := by omega
          rw [List.getElem?_append_right (by rw [rcells_len]; omega), List.getElem?_append_right (by rw [rcells_len]; omega), rcells_len, Nat.sub_self]
          rfl
    · rename_i hi
      rw [List.getElem?_eq_none]
      rw [List.length_append, rcells_len]
      simp only [List.length_cons, List.length_nil]
      omega
theorem own_some {W : World} {B n c : Nat} {t : TypeId} {G : Option Addr} {xs : List Value} (h : W.ownsRow B t 2 (.slice G n c) n xs) (hn : 1 ≤ n) : ∃ g, G = some ⟨g, 0, none⟩ ∧ g < W.heap.size ∧ B ≤ g ∧ ∀ o, W.frozen? ⟨g, o, none⟩ = false := by
  rcases h.2 with ⟨_, e⟩ | ⟨g, cap, cur, e, hB, hh, _⟩
  · omega
  · injection e with e
    exact ⟨g, e, (Array.getElem?_eq_some_iff.1 hh).1, hB, fun o => (show W.rowIs g t cur.size (fun i => cur[i]?.getD (.bool false)) from ⟨cur, hh, rfl, fun i hi => by simp [hi]⟩).frozen o⟩

theorem run_info : (Tryd.prog.info? 30).map (fun i => (i.zero, i.size, i.bytes)) = some (some (.agg #[.int .i64 0, .int .i64 0]), 2, 16) := by kernel_rfl
theorem ref_info : (Tryd.prog.info? 37).map (fun i => (i.zero, i.size, i.bytes)) = some (some (.agg #[.int .i64 0, .int .i64 0]), 2, 16) := by kernel_rfl
theorem cells_two_new (w : World) (x y : Value) (t : TypeId) : ∀ j u, [x, y][j]? = some u → (w.alloc (.cells #[x, y] t)).cell? ((⟨w.heap.size, 0, none⟩ : Addr).add j) = some u := by
  intro j u hj
  match j, hj with
  | 0, hj =>
    simp at hj
    subst hj
    simp [Addr.add]
  | 1, hj =>
    simp at hj
    subst hj
    simp [Addr.add]

/-- runs of the call's own -/
def GotR (t : TypeId) (w wr : World) (G : Option Addr) (n gc : Nat) (l : List Run) : Prop := wr.ownsRow w.heap.size t 2 (.slice G n gc) n (rcells l) ∧ Below w.heap.size w wr
/-- runs that a call answers -/
def RsR (w : World) (l : List Run) (e : Ending) (w' : World) : Prop := ∃ (G : Option Addr) (gc : Nat), e = .returned (.slice G l.length gc) ∧ Rs w' w.heap.size G l ∧ Below w.heap.size w w'

theorem frs_len (f : Nat → Bool) : ∀ n, (frs f n).length ≤ n
  | 0 => Nat.le_refl _
  | b + 1 => by
    have ih := frs_len f b
    rw [frs]
    split
    · omega
    · unfold ext
      split
      · split
        · simp; omega
        · simp; omega
      · simp; omega

/-- between two rounds of Free -/
def Rf (w wr : World) (f : Nat → Bool) (n g s : Nat) (L m : List Run) (G : Option Addr) (k gc : Nat) : Prop :=
  From f n s m ∧ Own2 wr g ((hd m).1 : Int) ((hd m).2 : Int) ∧ w.heap.size ≤ g ∧ GotR 30 w wr G k gc (L.take k) ∧ k ≤ L.length ∧ L.drop k = m ∧ s ≤ n ∧ some g ≠ (Value.slice G k gc).ownBlock

section
variable {w : World} {p q K C n : Nat} {f : Nat → Bool}
set_option maxRecDepth 100000 in
set_option maxHeartbeats 2000000 in
theorem free_any' (h : Mp w p q K C n f) (hT : Tab w) :
    Calls Tryd.prog 16 #[.pointer (some ⟨p, 0, none⟩)] w (RsR w (frs f n)) := by
  have hmx := h.max
  have HM0 := Lib.hid h
  have HT0 := Lib.hid hT
  have hlen := frs_len f n
  have hF := from_frs f n
  generalize frs f n = L at *
  have H0 := Lib.hid (freeFrom_any h hT 0 L (by omega) hF)
  have HF := Lib.hid hF
  obtain ⟨i0, hi0, hz0, hz1, hz2⟩ := info_parts run_info
  clear h hT hF
  go_enter Tryd.func16, Tryd.ntmps16
  go_wp2_with fail
  refine H0.out.mono ?_
  rintro e w2 ⟨rfl, hb⟩
  have HB2 := Lib.hid hb
  clear hb
  go_wp2
  go_loopw [3, 4, 5] (fun sv gv bv wr => ∃ (g s k gc : Nat) (G : Option Addr) (m : List Run), sv = .slice G k gc ∧ gv = .pointer (some ⟨g, 0, none⟩) ∧ bv = .bool (!m.isEmpty) ∧ Rf w wr f n g s L m G k gc) (fun _ gv bv wr => mu n gv bv wr)
  case atStart =>
    refine ⟨w2.heap.size, 0, 0, 0, none, L, rfl, rfl, rfl, HF.out, own2_new w2 _ _ _, HB2.out.size, ⟨⟨by rw [List.take_zero]; rfl, .inl ⟨rfl, rfl⟩⟩, HB2.out.alloc HB2.out.size _⟩, Nat.zero_le _, rfl, Nat.zero_le _, by simp [Value.ownBlock]⟩
  case round =>
    obtain ⟨g, s, k, gc, G, m, rfl, rfl, rfl, hF, hg, hwg, hgot, hk, hdr, hsn, hne⟩ := hrel
    cases m with
    | nil =>
      have hk2 : k = L.length := by
        have := congrArg List.length hdr
        simp at this
        omega
      subst hk2
      rw [List.take_length] at hgot
      obtain ⟨hrs, -⟩ := own_rs hgot.1
      have HE := Lib.hid (show RsR w L (.returned (.slice G L.length gc)) wr from ⟨G, gc, rfl, hrs, hgot.2⟩)
      clear hF hg hgot hdr hne hrs hk
      simp only [List.isEmpty_nil, Bool.not_true]
      go_wp2
      go_ret
      exact HE.out
    | cons r m =>
      obtain ⟨a, c⟩ := r
      obtain ⟨_, h1, h2, h3, _, hF2, _⟩ := hF.next_some
      have hlt : k < L.length := by
        have := congrArg List.length hdr
        simp at this
        omega
      have HTK := Lib.hid (show L.take (k + 1) = L.take k ++ [(a, c)] ∧ L.drop (k + 1) = m from by
        have e : L[k] :: L.drop (k + 1) = (a, c) :: m := by rw [← List.drop_eq_getElem_cons hlt]; exact hdr
        injection e with e1 e2
        exact ⟨by rw [List.take_succ_eq_append_getElem hlt, e1], e2⟩)
      have hg0 : wr.cell? ⟨g, 0, none⟩ = some (.int .i64 (a : Int)) := hg.c0
      have hg1 : wr.cell? ⟨g, 1, none⟩ = some (.int .i64 (c : Int)) := hg.c1
      have HMU := Lib.hid (mu_yes (n := n) (show Own2 wr g (a : Int) (c : Int) from hg))
      have HG := Lib.hid hgot
      have HGG := Lib.hid hg
      have hkn : k ≤ 65534 := by omega
      have HOWN := Lib.hid (hgot.1.alloc (.cells #[.int .i64 (a : Int), .int .i64 (c : Int)] 30))
      have HB3 := Lib.hid (hgot.2.alloc hgot.2.size (.cells #[.int .i64 (a : Int), .int .i64 (c : Int)] 30))
      have HCT := Lib.hid (cells_two_new wr (.int .i64 (a : Int)) (.int .i64 (c : Int)) 30)
      clear hF hg hgot hdr hk
      simp only [List.isEmpty_cons, Bool.not_false]
      have hgl := HGG.out.lt
      obtain ⟨d, hd⟩ : ∃ d, d = a + c := ⟨_, rfl⟩
      rw [← hd] at hF2
      have hsum : (a : Int) + (c : Int) = (d : Int) := by omega
      have hdn : d ≤ n := by omega
      have HD := Lib.hid hd
      have HF3 := Lib.hid hF2
      clear hF2 hd
      go_wp2_with (at_builtin; refine wpList_append_own_at _ rfl (.tmp 22) (.tmp 24) 41 rfl w.heap.size 30 i0 (.agg #[.int .i64 0, .int .i64 0]) 2 16 Tryd.underlying41 hi0 hz0 hz1 hz2 rfl (by decide) (.slice G k gc) k (rcells (L.take k)) rfl HOWN.out ⟨wr.heap.size, 0, none⟩ 1 1 [.int .i64 (a : Int), .int .i64 (c : Int)] rfl rfl HCT.out (by simp [Value.oneCell']) (by unfold maxLen; omega) (by omega) (by have := HB3.out.size; omega) ?_
                   intro v' w3 hown3 hgr3 _ _
                   obtain ⟨G', gc', rfl⟩ := row_slice2 hown3
                   have HO3 := Lib.hid hown3
                   have HG3 := Lib.hid hgr3
                   have HB4 := Lib.hid (HB3.out.grown hgr3 HB3.out.size (fun k hk => row_base_lt2 HG.out.1 hk))
                   have HL3 := Lib.hid (fun g hg => (World.ownsRow.lt hown3 g hg).2)
                   have HGG3 := Lib.hid ((HGG.out.keep ((Below.refl _ _).alloc (Nat.le_refl _) _)).grown hgr3 hne)
                   have hg30 : w3.cell? ⟨g, 0, none⟩ = some (.int .i64 (a : Int)) := HGG3.out.c0
                   have hg31 : w3.cell? ⟨g, 1, none⟩ = some (.int .i64 (c : Int)) := HGG3.out.c1
                   have hg3l := HGG3.out.lt
                   clear hown3 hgr3 hg0 hg1)
      have hba := (Below.refl w3.heap.size w3).alloc (Nat.le_refl _) (.cells #[.int .i64 (a : Int), .int .i64 (c : Int)] 30)
      have HB5 := Lib.hid (HB4.out.alloc HB4.out.size (.cells #[.int .i64 (a : Int), .int .i64 (c : Int)] 30))
      have HOZ := Lib.hid (own2_new w3 (a : Int) (c : Int) 30)
      have HO4 := Lib.hid (own_keep2 HO3.out hba)
      have HC := Lib.hid (freeFrom_any (HM0.out.keep HB5.out) (HT0.out.below HB5.out HT0.out.lt) d m (by omega) HF3.out)
      have hzw : w.heap.size ≤ w3.heap.size := HB4.out.size
      clear hba hg30 hg31
      generalize w3.alloc (.cells #[.int .i64 (a : Int), .int .i64 (c : Int)] 30) = w4 at *
      generalize w3.heap.size = z at *
      (with_reducible refine HC.out.mono ?_)
      rintro e w5 ⟨rfl, hb⟩
      have HB6 := Lib.hid (HB5.out.trans (hb.mono HB5.out.size))
      have HOZ5 := Lib.hid (HOZ.out.keep hb)
      have HO5 := Lib.hid (own_keep2 HO4.out hb)
      have hfz0 := HOZ5.out.f 0
      have hfz1 := HOZ5.out.f 1
      have hcz0 := HOZ5.out.c0
      have hcz1 := HOZ5.out.c1
      clear hb hsum
      go_wp2
      have HX := Lib.hid (HOZ5.out.put ((hd m).1 : Int) ((hd m).2 : Int))
      have HXO := Lib.hid (own_keepN2 HO5.out (((Below.refl z w5).setCell (p := ⟨z, 0, none⟩) (Nat.le_refl _) (.int .i64 ((hd m).1 : Int))).setCell (p := ⟨z, 1, none⟩) (Nat.le_refl _) (.int .i64 ((hd m).2 : Int))) HL3.out)
      have HXB := Lib.hid ((HB6.out.setCell (p := ⟨z, 0, none⟩) hzw (.int .i64 ((hd m).1 : Int))).setCell (p := ⟨z, 1, none⟩) hzw (.int .i64 ((hd m).2 : Int)))
      refine ⟨⟨z, d, k + 1, gc', G', m, rfl, rfl, rfl, HF3.out, HX.out, hzw, ⟨?_, HXB.out⟩, by omega, HTK.out.2, by omega, fun e => Nat.lt_irrefl z (HL3.out z e.symm)⟩, ?_⟩
      · rw [HTK.out.1, rcells_snoc]
        exact HXO.out
      · rw [HMU.out]
        exact mu_less HX.out HF3.out (by have := HD.out; omega) (by omega)
end
end Rn
end Go.Proofs.YtblibjjnbbleeaaDoor
