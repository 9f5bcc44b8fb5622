/- Fit: the first free run that is long enough. -/
import Derived.Test.YtblibjjnbbleeaaDoorRunMem
namespace Go.Proofs.YtblibjjnbbleeaaDoor
open Go.RowKit Go.MapKept
namespace Rn
open Bm

/-- what a Fit answers -/
def fv : Option Run → Value
  | some r => .tuple #[rv (r.1 : Int) (r.2 : Int), .bool true]
  | none => .tuple #[rv 0 0, .bool false]

section
variable {w : World} {p q K C n : Nat} {f : Nat → Bool}
set_option maxRecDepth 100000 in
set_option maxHeartbeats 1000000 in
theorem fit_low (x : Int) (hx : x < 1) : Calls Tryd.prog 10 #[.pointer (some ⟨p, 0, none⟩), .int .i64 x] w fun e w' => e = .returned (fv none) ∧ Below w.heap.size w w' := by
  have HO := Lib.hid (own2_new w 0 0 30)
  have HB := Lib.hid ((Below.refl w.heap.size w).alloc (Nat.le_refl _) (.cells #[.int .i64 0, .int .i64 0] 30))
  have hc0 := HO.out.c0
  have hc1 := HO.out.c1
  have hf0 := HO.out.f 0
  have hf1 := HO.out.f 1
  go_enter Tryd.func10, Tryd.ntmps10
  go_wp2
  refine bodyPost_ret (v := fv none) ?_ rfl ⟨rfl, ?_⟩
  · simp [results, Tryd.results10, go_sem, hc0, hc1, fv]
  · exact HB.out

/-- the first of runs, or noughts -/
def hd (l : List Run) : Run := l.headD (0, 0)
theorem freeFrom_any (h : Mp w p q K C n f) (hT : Tab w) (s : Nat) (l : List Run) (hs : s ≤ 65534) (hF : From f n s l) :
    Calls Tryd.prog 31 #[.pointer (some ⟨p, 0, none⟩), .int .i64 (s : Int)] w fun e w' => e = .returned (.tuple #[rv ((hd l).1 : Int) ((hd l).2 : Int), .bool (!l.isEmpty)]) ∧ Below w.heap.size w w' := by
  cases l with
  | nil => exact freeFrom_none h hT s hs hF
  | cons r l => exact freeFrom_some h hT s r.1 r.2 l hs hF

/-- how far it is to the end -/
def mu (n : Nat) (g b : Value) (w : World) : Nat :=
  match g, b with
  | .pointer (some a), .bool true => n + 1 - (intOf ((w.cell? a).getD (.bool false))).toNat
  | _, _ => 0
theorem mu_yes {g : Nat} {x : Nat} {y : Int} (h : Own2 w g (x : Int) y) : mu n (.pointer (some ⟨g, 0, none⟩)) (.bool true) w = n + 1 - x := by
  unfold mu
  simp only
  rw [h.c0]
  rfl
theorem mu_no (g : Value) : mu n g (.bool false) w = 0 := by
  unfold mu
  split
  · rename_i h; cases h
  · rfl

theorem mu_less {w : World} {f : Nat → Bool} {n g d a : Nat} {m : List Run} (h : Own2 w g ((hd m).1 : Int) ((hd m).2 : Int)) (hF : From f n d m) (hd : a < d) (ha : a ≤ n) : mu n (.pointer (some ⟨g, 0, none⟩)) (.bool (!m.isEmpty)) w < n + 1 - a := by
  cases m with
  | nil =>
    simp only [List.isEmpty_nil, Bool.not_true]
    rw [mu_no]
    omega
  | cons r m =>
    have := hF.next_some.2
    simp only [List.isEmpty_cons, Bool.not_false]
    rw [mu_yes h]
    simp only [Rn.hd, List.headD_cons]
    omega

/-- between two rounds -/
def Rd (w wr : World) (f : Nat → Bool) (n g s : Nat) (m : List Run) : Prop :=
  From f n s m ∧ Own2 wr g ((hd m).1 : Int) ((hd m).2 : Int) ∧ Own2 wr w.heap.size 0 0 ∧ w.heap.size < g ∧ Below w.heap.size w wr ∧ s ≤ n

set_option maxRecDepth 100000 in
set_option maxHeartbeats 1000000 in
theorem fit_any (h : Mp w p q K C n f) (hT : Tab w) (c : Nat) (hc : 1 ≤ c) (hc2 : c ≤ 9223372036854775807) :
    Calls Tryd.prog 10 #[.pointer (some ⟨p, 0, none⟩), .int .i64 (c : Int)] w fun e w' => e = .returned (fv (fit (frs f n) c)) ∧ Below w.heap.size w w' := by
  have hmx := h.max
  have HO := Lib.hid (own2_new w 0 0 30)
  have HB := Lib.hid ((Below.refl w.heap.size w).alloc (Nat.le_refl _) (.cells #[.int .i64 0, .int .i64 0] 30))
  have HM0 := Lib.hid h
  have HT0 := Lib.hid hT
  have hc1 : ¬ (c : Int) < 1 := by omega
  have hF := from_frs f n
  generalize frs f n = L at *
  have H0 := Lib.hid (freeFrom_any (h.keep HB.out) (hT.below HB.out hT.lt) 0 L (by omega) hF)
  have HF := Lib.hid hF
  clear h hT hF
  go_enter Tryd.func10, Tryd.ntmps10
  go_wp2_with fail
  generalize w.alloc (.cells #[.int .i64 0, .int .i64 0] 30) = w1 at *
  refine H0.out.mono ?_
  rintro e w2 ⟨rfl, hb⟩
  have HB2 := Lib.hid (HB.out.trans (hb.mono HB.out.size))
  have HO2 := Lib.hid (HO.out.keep hb)
  clear hb
  go_wp2
  go_loopw [6, 7] (fun gv bv wr => ∃ (g s : Nat) (m : List Run), gv = .pointer (some ⟨g, 0, none⟩) ∧ bv = .bool (!m.isEmpty) ∧ fit L c = fit m c ∧ Rd w wr f n g s m) (fun gv bv wr => mu n gv bv wr)
  case atStart =>
    refine ⟨w2.heap.size, 0, L, rfl, rfl, rfl, HF.out, own2_new w2 _ _ _, HO2.out.keep ((Below.refl _ _).alloc (Nat.le_refl _) _), HO2.out.lt, HB2.out.alloc HB2.out.size _, Nat.zero_le _⟩
  case round =>
    obtain ⟨g, s, m, rfl, rfl, hfit, hF, hg, hr, hlt, hb, hsn⟩ := hrel
    cases m with
    | nil =>
      have HE := Lib.hid hfit
      have HB3 := Lib.hid hb
      have HR := Lib.hid hr
      have hc0 := hr.c0
      have hcc := hr.c1
      have hf0 := hr.f 0
      have hf1 := hr.f 1
      clear hfit hb hr hF hg
      simp only [List.isEmpty_nil, Bool.not_true]
      go_wp2
      refine bodyPost_ret (v := fv none) ?_ rfl ⟨?_, ?_⟩
      · simp [results, Tryd.results10, go_sem, hc0, hcc, fv]
      · rw [HE.out]; rfl
      · exact (HB3.out.setCell (Nat.le_refl _) _).setCell (Nat.le_refl _) _
    | cons r m =>
      obtain ⟨a, k⟩ := r
      obtain ⟨_, h1, h2, h3, _, hF2, _⟩ := hF.next_some
      have HE := Lib.hid hfit
      have HB3 := Lib.hid hb
      have hg0 : wr.cell? ⟨g, 0, none⟩ = some (.int .i64 (a : Int)) := hg.c0
      have hg1 : wr.cell? ⟨g, 1, none⟩ = some (.int .i64 (k : Int)) := hg.c1
      have HMU := Lib.hid (mu_yes (n := n) (show Own2 wr g (a : Int) (k : Int) from hg))
      have HR := Lib.hid hr
      have HF2 := Lib.hid hF2
      simp only [List.isEmpty_cons, Bool.not_false]
      by_cases hck : c ≤ k
      · have hck1 : (c : Int) ≤ (k : Int) := by omega
        have hc0 := hr.c0
        have hcc := hr.c1
        have hf0 := hr.f 0
        have hf1 := hr.f 1
        clear hfit hb hr hF hg hF2
        go_wp2
        refine bodyPost_ret (v := fv (some (a, c))) ?_ rfl ⟨?_, ?_⟩
        · simp [results, Tryd.results10, go_sem, hc0, hcc, fv]
        · rw [HE.out, fit_yes hck]
        · exact (HB3.out.setCell (Nat.le_refl _) _).setCell (Nat.le_refl _) _
      · have hck1 : ¬ (c : Int) ≤ (k : Int) := by omega
        have hba := (Below.refl wr.heap.size wr).alloc (Nat.le_refl _) (.cells #[.int .i64 (a : Int), .int .i64 (k : Int)] 30)
        have hb4 := hb.alloc hb.size (.cells #[.int .i64 (a : Int), .int .i64 (k : Int)] 30)
        have HB4 := Lib.hid hb4
        have HO4 := Lib.hid (own2_new wr (a : Int) (k : Int) 30)
        have HR4 := Lib.hid (hr.keep hba)
        obtain ⟨d, hd⟩ : ∃ d, d = a + k := ⟨_, rfl⟩
        rw [← hd] at hF2
        have HC := Lib.hid (freeFrom_any (HM0.out.keep hb4) (HT0.out.below hb4 HT0.out.lt) d m (by omega) hF2)
        have hsum : (a : Int) + (k : Int) = (d : Int) := by omega
        have hd2 : d ≤ n := by omega
        have HF3 := Lib.hid hF2
        have HD := Lib.hid hd
        have hcl0 := HO4.out.c0
        have hcl1 := HO4.out.c1
        have hfl0 := HO4.out.f 0
        have hfl1 := HO4.out.f 1
        have hrl : w.heap.size < wr.heap.size := hr.lt
        clear hfit hb hr hF hg hF2 hba hb4 hd
        go_wp2_with fail
        generalize wr.alloc (.cells #[.int .i64 (a : Int), .int .i64 (k : Int)] 30) = w3 at *
        generalize wr.heap.size = z at *
        refine HC.out.mono ?_
        rintro e w4 ⟨rfl, hb⟩
        have HB5 := Lib.hid (HB4.out.trans (hb.mono HB4.out.size))
        have HO5 := Lib.hid (HO4.out.keep hb)
        have HR5 := Lib.hid (HR4.out.keep hb)
        have hfz0 := HO5.out.f 0
        have hfz1 := HO5.out.f 1
        have hcz0 := HO5.out.c0
        have hcz1 := HO5.out.c1
        clear hb hcl0 hcl1 hfl0 hfl1 hsum
        go_wp2
        have HX := Lib.hid (HO5.out.put ((hd m).1 : Int) ((hd m).2 : Int))
        have HXR := Lib.hid (HR5.out.keepN (((Below.refl (w.heap.size + 1) w4).setCell (p := ⟨z, 0, none⟩) hrl (.int .i64 ((hd m).1 : Int))).setCell (p := ⟨z, 1, none⟩) hrl (.int .i64 ((hd m).2 : Int))) (Nat.lt_succ_self _))
        have HXB := Lib.hid ((HB5.out.setCell (p := ⟨z, 0, none⟩) (Nat.le_of_lt hrl) (.int .i64 ((hd m).1 : Int))).setCell (p := ⟨z, 1, none⟩) (Nat.le_of_lt hrl) (.int .i64 ((hd m).2 : Int)))
        refine ⟨⟨z, d, m, rfl, rfl, ?_, HF3.out, HX.out, HXR.out, hrl, HXB.out, hd2⟩, ?_⟩
        · rw [HE.out, fit_no hck]
        · rw [HMU.out]
          exact mu_less HX.out HF3.out (by have := HD.out; omega) (by omega)
end
end Rn
end Go.Proofs.YtblibjjnbbleeaaDoor
