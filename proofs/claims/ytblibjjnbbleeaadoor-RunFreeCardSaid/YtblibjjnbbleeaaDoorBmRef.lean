/- The document's map: a truth for each block: new, turned, counted, the next one. -/
import Derived.Test.YtblibjjnbbleeaaDoorBmRange
import Derived.Test.YtblibjjnbbleeaaDoorBmWords
namespace Go.Proofs.YtblibjjnbbleeaaDoor
open Go.RowKit Go.MapKept
namespace Bm
open Pack (Wds Nts)

theorem bool_info : (Tryd.prog.info? 4).map (fun i => (i.zero, i.size, i.bytes)) = some (some (.bool false), 1, 1) := by kernel_rfl
def bls (f : Nat → Bool) (n : Nat) : List Value := (List.range n).map fun k => .bool (f k)
theorem bls_len (f : Nat → Bool) (n : Nat) : (bls f n).length = n := by simp [bls]
theorem bls_get (f : Nat → Bool) (n i : Nat) (h : i < n) : (bls f n)[i]? = some (.bool (f i)) := by simp [bls, h]
theorem bls_one (f : Nat → Bool) (n : Nat) : ∀ u ∈ bls f n, u.oneCell' = true := by
  intro u hu
  obtain ⟨x, _, rfl⟩ := List.mem_map.1 hu
  rfl
theorem Row.bls {w : World} {g q n : Nat} {f : Nat → Bool} (h : Row w g 4 n (fun k => .bool (f k))) (hq : g ≠ q) : Bls w q (some ⟨g, 0, none⟩) n f :=
  ⟨fun j hj => ⟨g, 0, rfl, h.lt, hq, by rw [Nat.zero_add]; exact h.cell hj⟩⟩

section
variable {w : World} {q n : Nat} {f : Nat → Bool}
theorem make_bls (y : Int) (m : Nat) (hy : y = (m : Int)) (hm : m ≤ 65534) (w : World) : (Instr.makeSlice 26 (.int .i64 y) (.int .i64 y)).run Tryd.prog w = .ok (.slice (some ⟨w.heap.size, 0, none⟩) m m) (w.alloc (.cells (madeCells #[.bool false] m) 4)) := by
  subst hy
  exact run_make_row' (P := Tryd.prog) 26 4 _ 1 Tryd.underlying26 bool_info rfl .i64 .i64 m (by omega) (by omega) w
set_option maxRecDepth 100000 in
theorem refNew_any (x : Int) (m : Nat) (hm : (m : Int) = min (max x 0) 65534) (hq : q < w.heap.size) : Calls Tryd.prog 29 #[.int .i64 x] w fun e w' =>
    e = .returned (.slice (some ⟨w.heap.size, 0, none⟩) m m) ∧ Bls w' q (some ⟨w.heap.size, 0, none⟩) m (fun _ => false) ∧ Below w.heap.size w w' := by
  have HX := Lib.hid (Row.bls (q := q) (row_of_is (World.rowIs_made w (.bool false) m 4)) (by omega))
  have HB := Lib.hid ((Below.refl w.heap.size w).alloc (Nat.le_refl _) (.cells (madeCells #[.bool false] m) 4))
  clear hq
  rcases Int.lt_or_le x 0 with hn | hn
  · have hmk := make_bls 0 m (by omega) (by omega) w
    clear hm
    go_enter Tryd.func29, Tryd.ntmps29
    go_wp2
    go_ret
    exact ⟨rfl, HX.out, HB.out⟩
  · rcases Int.lt_or_le 65534 x with hn2 | hn2
    · have hmk := make_bls 65534 m (by omega) (by omega) w
      clear hm
      go_enter Tryd.func29, Tryd.ntmps29
      go_wp2
      go_ret
      exact ⟨rfl, HX.out, HB.out⟩
    · have hmk := make_bls x m (by omega) (by omega) w
      clear hm
      go_enter Tryd.func29, Tryd.ntmps29
      go_wp2
      go_ret
      exact ⟨rfl, HX.out, HB.out⟩

/-- a copy of truths -/
theorem copy_bls {W : World} {ad : Addr} (c : Nat) (h : Bls W q (some ad) n f) (hn : n ≤ 65534) :
    ∃ (g gc : Nat) (w' : World), (Builtin.append_ #[26, 26] 26 #[.slice (some ⟨W.heap.size, 0, none⟩) 0 0, .slice (some ad) n c]).run Tryd.prog (W.alloc (.cells #[] 4)) = .ok (.slice (some ⟨g, 0, none⟩) n gc) w' ∧
      W.heap.size ≤ g ∧ Row w' g 4 n (fun k => .bool (f k)) ∧ Below W.heap.size W w' := by
  obtain ⟨i0, hi0, hz0, hz1, hz2⟩ := info_parts bool_info
  have hown : (W.alloc (.cells #[] 4)).ownsRow W.heap.size 4 1 (.slice (some ⟨W.heap.size, 0, none⟩) 0 0) 0 [] := World.ownsRow_made W #[] 0 (Nat.le_refl _) (by unfold maxLen; omega) rfl
  have hb := (Below.refl W.heap.size W).alloc (Nat.le_refl _) (.cells #[] 4)
  have hal := h.keep hb
  obtain ⟨v', w', hr, h2, h3, h4, _⟩ := run_append_own_at (P := Tryd.prog) (W.alloc (.cells #[] 4)) W.heap.size 26 26 4 i0 (.bool false) 1 1 Tryd.underlying26 hi0 hz0 hz1 hz2 rfl (by decide) _ 0 [] hown ad n c (bls f n) (by simp [bls]) (fun j u hu => by
    have hj : j < n := by
      have := (List.getElem?_eq_some_iff.1 hu).1
      simpa [bls] using this
    obtain ⟨b, o, e, _, _, hc⟩ := hal.at' j hj
    injection e with e
    subst e
    rw [Go.WideShapes.add_plain, hc, ← hu, bls_get f n j hj]) (bls_one f n) (by unfold maxLen; omega) (by omega) (by simp)
  rw [Nat.zero_add, List.nil_append] at h2
  have hne : v' ≠ .slice none 0 0 := fun e => by
    have := (h4.1 e).1
    cases this
  rcases h2.2 with ⟨e, _⟩ | ⟨g, cap, cur, e, hg, hh, hc, _, hsz, ht⟩
  · exact absurd e hne
  · subst e
    exact ⟨g, cap, w', hr, hg, row_of_own h2 (fun i hi => bls_get f n i hi) rfl, hb.grown h3 (by simp) (fun k hk => Pack.row_base_lt hown hk)⟩

/-- a truth turned -/
def Trn (w : World) (q n : Nat) (is : Bool) (f : Nat → Bool) (b : Int) (e : Ending) (w' : World) : Prop :=
  ∃ (A : Option Addr) (c : Nat), e = .returned (.tuple #[.slice A n c, .bool (trd n is f b)]) ∧ Bls w' q A n (trn n is f b) ∧ Below w.heap.size w w'

set_option maxRecDepth 100000 in
set_option maxHeartbeats 1000000 in
theorem turn_any (A : Option Addr) (c : Nat) (h : Bls w q A n f) (hn : n ≤ 65534) (hq : q < w.heap.size) (b : Int) (is : Bool) :
    Calls Tryd.prog 30 #[.slice A n c, .int .i64 b, .bool is] w (Trn w q n is f b) := by
  by_cases hin : b < 0 ∨ (n : Int) ≤ b
  · have hx : trd n is f b = false := by unfold trd; rw [decide_eq_false (by omega)]; rfl
    have HX := Lib.hid (show Trn w q n is f b (.returned (.tuple #[.slice A n c, .bool false])) w from ⟨A, c, by rw [hx], by unfold trn; rw [hx]; exact h, Below.refl _ _⟩)
    clear h hx
    by_cases h0 : b < 0
    · clear hin
      go_enter Tryd.func30, Tryd.ntmps30
      go_wp2
      go_ret2
      exact HX.out
    · have h1 : (n : Int) ≤ b := by omega
      clear hin
      go_enter Tryd.func30, Tryd.ntmps30
      go_wp2
      go_ret2
      exact HX.out
  · obtain ⟨d, rfl⟩ := Int.eq_ofNat_of_zero_le (show 0 ≤ b by omega)
    have hd : d < n := by omega
    clear hin
    obtain ⟨bb, o, rfl, hlt, hbq, hcell⟩ := h.at' d hd
    have hi0 : (0 : Int) ≤ (d : Int) := by omega
    have hi1 : (d : Int) < (n : Int) := by omega
    have hi2 : ¬ (d : Int) < 0 := by omega
    have hi3 : ¬ (n : Int) ≤ (d : Int) := by omega
    by_cases hs : f d = is
    · have hx : trd n is f (d : Int) = false := by unfold trd; rw [Int.toNat_natCast, hs]; simp
      have HX := Lib.hid (show Trn w q n is f (d : Int) (.returned (.tuple #[.slice (some ⟨bb, o, none⟩) n c, .bool false])) w from ⟨_, c, by rw [hx], by unfold trn; rw [hx]; exact h, Below.refl _ _⟩)
      rw [hs] at hcell
      clear h hx hs
      go_enter Tryd.func30, Tryd.ntmps30
      go_wp2
      go_ret2
      exact HX.out
    · have hx : trd n is f (d : Int) = true := by
        unfold trd
        rw [Int.toNat_natCast, decide_eq_true (by omega)]
        simpa using hs
      obtain ⟨g, gc, w1, hr, hg, hrow, hbel⟩ := copy_bls c h hn
      have hcg := hrow.cell hd
      have hfg := hrow.frozen d
      have hne : g ≠ q := by omega
      have HX := Lib.hid (show Trn w q n is f (d : Int) (.returned (.tuple #[.slice (some ⟨g, 0, none⟩) n gc, .bool true])) (w1.setCell ⟨g, d, none⟩ (.bool is)) from ⟨_, gc, by rw [hx], by
        unfold trn
        rw [hx, if_pos rfl, Int.toNat_natCast]
        refine Row.bls ((hrow.set d (.bool is)).congr (fun j _ => ?_)) hne
        unfold upd
        split <;> rfl, hbel.setCell hg _⟩)
      have hfd : f d = !is := by cases is <;> simpa using hs
      rw [hfd] at hcell
      have HR := Lib.hid hr
      clear h hx hs hr hrow hbel hfd
      cases is with
      | true =>
        simp only [Bool.not_true] at hcell
        go_enter Tryd.func30, Tryd.ntmps30
        go_wp2_with (at_builtin; refine wpList_append_run rfl (.tmp 26) (.tmp 27) 26 rfl _ _ _ rfl rfl HR.out ?_)
        go_ret2
        exact HX.out
      | false =>
        simp only [Bool.not_false] at hcell
        go_enter Tryd.func30, Tryd.ntmps30
        go_wp2_with (at_builtin; refine wpList_append_run rfl (.tmp 26) (.tmp 27) 26 rfl _ _ _ rfl rfl HR.out ?_)
        go_ret2
        exact HX.out

set_option maxRecDepth 100000 in
set_option maxHeartbeats 1000000 in
theorem refCount_any (A : Option Addr) (c : Nat) (h : Bls w q A n f) (hn : n ≤ 65534) : Calls Tryd.prog 36 #[.slice A n c] w fun e w' => e = .returned (.int .i64 (cnt f n : Int)) ∧ w = w' := by
  have H := Lib.hid h
  clear h
  go_enter Tryd.func36, Tryd.ntmps36
  go_wp2
  go_loop [3, 8] (fun a i => ∃ k : Nat, k ≤ n ∧ i = .int .i64 (k : Int) ∧ a = .int .i64 (cnt f k : Int)) (fun _ i => n - (intOf i).toNat)
  case atStart => exact ⟨0, Nat.zero_le _, rfl, rfl⟩
  case round =>
    obtain ⟨k, hk, rfl, rfl⟩ := hrel
    have hle := cnt_le f k
    by_cases hlt : k < n
    · obtain ⟨b, o, rfl, hb, _, hcell⟩ := H.out.at' k hlt
      have hi0 : (0 : Int) ≤ (k : Int) := by omega
      have hi1 : (k : Int) < (n : Int) := by omega
      have HS := Lib.hid (show cnt f (k + 1) = cnt f k + if f k then 1 else 0 from rfl)
      generalize hcc : cnt f k = z at *
      clear hcc
      cases hfk : f k with
      | true =>
        rw [hfk] at hcell HS
        clear hfk
        go_wp2
        go_round
        case rel => exact ⟨k + 1, by omega, by go_num, by rw [HS.out]; go_num⟩
        case measure => simp [intOf]; omega
      | false =>
        rw [hfk] at hcell HS
        clear hfk
        go_wp2
        go_round
        case rel => exact ⟨k + 1, by omega, by go_num, by rw [HS.out]; rfl⟩
        case measure => simp [intOf]; omega
    · obtain rfl : k = n := by omega
      go_wp2
      go_ret
      exact ⟨rfl, rfl⟩

end
end Bm
end Go.Proofs.YtblibjjnbbleeaaDoor
