/- The law of a path's parent. -/
import Derived.Test.YtobffegkdoefnaaDoorPatLives
import Derived.Test.YtobffegkdoefnaaDoorPatPar
namespace Go.Proofs.YtobffegkdoefnaaDoor
open Go.RowKit Go.MapKept Go.Shelf
namespace Pat

theorem Txs.left {w : World} {A : Option Addr} {m r : List ByteArray} (h : Txs w A (m ++ r)) : Txs w A m := by
  have := h.take m.length
  rwa [List.take_left] at this

theorem mark_ok (w : World) (g k : Nat) (l : List ByteArray) (h : Own w g l) (hk : k < l.length) : (∃ u, w.cell? ⟨g, k, none⟩ = some (.string u)) ∧ w.frozen? ⟨g, k, none⟩ = false :=
  ⟨⟨_, World.rowIs.cell h hk⟩, World.rowIs.frozen h k⟩

theorem same_self (w : World) (A B : Option Addr) (c d k : Nat) (x : List ByteArray) (hk : x.length = k) (hx : Txs w A x) (hy : Txs w B x) :
    Calls Tryd.prog 12 #[.slice A k c, .slice B k d] w fun e w' => e = .returned (.bool true) ∧ ∃ n, w' = w.drewN n := by
  subst hk
  exact (same_any w A B c d x x hx hy).mono fun e w' h => ⟨by rw [h.1, decide_eq_true rfl], h.2⟩

set_option maxRecDepth 100000 in
set_option maxHeartbeats 2000000 in
theorem parents_yes (w : World) (b o c n k : Nat) (m : List ByteArray) (s : ByteArray) (h : Txs w (some ⟨b, o, none⟩) (m ++ [s])) (hk : m.length = k) (hn : n = k + 1) (hc : n ≤ c) :
    Calls Tryd.prog 6 #[.slice (some ⟨b, o, none⟩) n c] w fun e w' => e = .returned (.bool true) ∧ Below w.heap.size w w' := by
  have HX := Lib.hid h
  have HL := Lib.hid lives_any
  have hlen : (m ++ [s]).length = n := by simp [hk, hn]
  have hbl : b < w.heap.size := by
    obtain ⟨b', o', e, hlt, _⟩ := h.at' m.length (by simp)
    injection e with e
    injection e with e1 e2
    subst e1
    exact hlt
  have HH := Lib.hid hlen
  have HK := Lib.hid hk
  have HN := Lib.hid hn
  clear h hlen hk hn
  go_enter Tryd.func6, Tryd.ntmps6
  go_wp2_with fail
  refine (HL.out _).mono ?_
  rintro e w1 ⟨rfl, hb⟩
  have HX1 := Lib.hid (HX.out.keep hb)
  have HB1 := Lib.hid hb
  clear hb
  go_wp2_with fail
  have hf := few_any w1 (some ⟨b, o, none⟩) c (m ++ [s]) HX1.out
  rw [HH.out] at hf
  refine hf.mono ?_
  rintro e w2 ⟨rfl, rfl⟩
  clear hf
  cases hfx : few (m ++ [s]) with
  | false =>
    go_wp2_with fail
    refine (HL.out _).mono ?_
    rintro e w3 ⟨rfl, hb⟩
    have HB := Lib.hid (HB1.out.trans (hb.mono HB1.out.size))
    clear hb
    go_wp2
    go_ret
    exact ⟨rfl, HB.out⟩
  | true =>
    have hfw : Few (m ++ [s]) := of_decide_eq_true hfx
    have hk70 : n ≤ 70 := by rw [← HH.out]; exact hfw.2
    have hs60 : ∀ x ∈ m, x.size ≤ 9223372036854775807 := fun x hx => by have := hfw.1 x (by simp [hx]); omega
    have HS60 := Lib.hid hs60
    clear hfw hfx hs60
    go_wp2_with fail
    refine (parent_yes w2 (some ⟨b, o, none⟩) c n k m s HX1.out HK.out HN.out (by have := HN.out; omega)).mono ?_
    rintro e w3 ⟨g, rfl, hg, hown, hb⟩
    have HX3 := Lib.hid (HX1.out.keep hb)
    have HB3 := Lib.hid (HB1.out.trans (hb.mono HB1.out.size))
    have HO3 := Lib.hid hown
    have hsz := HB1.out.size
    have hwg : w.heap.size ≤ g := by omega
    have HG := Lib.hid hwg
    clear hb hown hg hsz hwg
    have hn := HN.out
    have hsub : (n : Int) - 1 = (k : Int) := by omega
    have hn0 : ((n : Int) == 0) = false := beq_eq_false_iff_ne.2 (by omega)
    have hn1 : ¬ (n : Int) = 0 := by omega
    have hi0 : (0 : Int) ≤ (k : Int) := by omega
    have hi1 : (k : Int) < (n : Int) := by omega
    have hi2 : (k : Int) ≤ (c : Int) := by omega
    have hi3 : (k : Int) ≤ (n : Int) := by omega
    obtain ⟨b', o', e, hlt, hc0⟩ := HX3.out.at' m.length (by simp)
    injection e with e
    injection e with e1 e2
    subst e1 e2
    rw [kid_at, HK.out] at hc0
    clear hn
    go_wp2_with fail
    have hsm := same_self w3 (some ⟨g, 0, none⟩) (some ⟨b, o, none⟩) k c k m HK.out (HO3.out.txs HS60.out (by rw [HK.out]; omega)) HX3.out.left
    refine hsm.mono ?_
    rintro e w4 ⟨rfl, n4, hw4⟩
    have HX4 := Lib.hid (show Txs w4 (some ⟨b, o, none⟩) (m ++ [s]) by rw [hw4]; exact HX3.out.drewN n4)
    have HO4 := Lib.hid (show Own w4 g m by rw [hw4]; exact HO3.out)
    have HB4 := Lib.hid (show Below w.heap.size w w4 by rw [hw4]; exact below_drewN HB3.out n4)
    clear hw4 hsm hc0 HO3 HX3 HB3
    go_wp2
    go_loopw [62] (fun i wr => ∃ (j : Nat) (l : List ByteArray), j ≤ k ∧ i = .int .i64 (j : Int) ∧ l.length = k ∧ Own wr g l ∧ Below w.heap.size w wr) (fun i _ => k - (intOf i).toNat)
    case atStart => exact ⟨0, m, Nat.zero_le _, rfl, HK.out, HO4.out, HB4.out⟩
    case round =>
      obtain ⟨j, l, hj, rfl, hl, hown, hb⟩ := hrel
      have HO := Lib.hid hown
      have HB := Lib.hid hb
      have HLL := Lib.hid hl
      by_cases hlt : j < k
      · obtain ⟨⟨u, hcu⟩, hfu⟩ := mark_ok wr g j l hown (by omega)
        have HO5 := Lib.hid (hown.set j ⟨#[63]⟩)
        have HB5 := Lib.hid (hb.setCell (p := ⟨g, j, none⟩) HG.out (.string ⟨#[63]⟩))
        clear hown hb hl
        go_wp2
        exact ⟨⟨j + 1, l.set j ⟨#[63]⟩, by omega, by go_num, by rw [List.length_set, HLL.out], HO5.out, HB5.out⟩, by simp [intOf]; omega⟩
      · obtain rfl : j = k := by omega
        have HX5 := Lib.hid (HX.out.keepN HB.out (fun a ha => by injection ha with ha; subst ha; exact hbl))
        clear hown hb hl
        go_wp2_with fail
        refine (parent_yes wr (some ⟨b, o, none⟩) c n j m s HX5.out HK.out HN.out (by have := HN.out; omega)).mono ?_
        rintro e w6 ⟨g6, rfl, hg6, hown6, hb6⟩
        have hsm := same_self w6 (some ⟨g6, 0, none⟩) (some ⟨b, o, none⟩) j c j m HK.out (hown6.txs HS60.out (by rw [HK.out]; omega)) (HX5.out.keep hb6).left
        have HSM := Lib.hid hsm
        have HB6 := Lib.hid (HB.out.trans (hb6.mono HB.out.size))
        clear hg6 hown6 hb6 hsm
        go_wp2_with fail
        refine HSM.out.mono ?_
        rintro e w7 ⟨rfl, n7, hw7⟩
        have HB7 := Lib.hid (show Below w.heap.size w w7 by rw [hw7]; exact below_drewN HB6.out n7)
        clear hw7
        go_wp2
        go_ret
        exact ⟨rfl, HB7.out⟩

set_option maxRecDepth 100000 in
set_option maxHeartbeats 2000000 in
theorem parents_no (w : World) (A : Option Addr) (c : Nat) :
    Calls Tryd.prog 6 #[.slice A 0 c] w fun e w' => e = .returned (.bool true) ∧ Below w.heap.size w w' := by
  have HL := Lib.hid lives_any
  go_enter Tryd.func6, Tryd.ntmps6
  go_wp2_with fail
  refine (HL.out _).mono ?_
  rintro e w1 ⟨rfl, hb⟩
  have HB1 := Lib.hid hb
  clear hb
  go_wp2_with fail
  refine (few_any w1 A c [] (txs_nil _ _)).mono ?_
  rintro e w2 ⟨rfl, rfl⟩
  have hfx : few [] = true := rfl
  rw [hfx]
  go_wp2_with fail
  refine (parent_no w2 A c).mono ?_
  rintro e w3 ⟨rfl, rfl⟩
  go_wp2
  go_ret
  exact ⟨rfl, HB1.out⟩

theorem parents_law (w : World) (A : Option Addr) (c : Nat) (l : List ByteArray) (h : Txs w A l) (hc : l.length ≤ c) :
    Calls Tryd.prog 6 #[.slice A l.length c] w fun e w' => e = .returned (.bool true) ∧ Below w.heap.size w w' := by
  rcases List.eq_nil_or_concat l with rfl | ⟨m, s, rfl⟩
  · exact parents_no w A c
  · rw [List.concat_eq_append] at h hc ⊢
    obtain ⟨b, o, rfl, _⟩ := h.at' 0 (by simp)
    exact parents_yes w b o c _ m.length m s h rfl (by simp) hc
end Pat
end Go.Proofs.YtobffegkdoefnaaDoor
