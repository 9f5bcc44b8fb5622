/- Runs as they lie in memory; the first free run from a block on. -/
import Derived.Test.YtblibjjnbbleeaaDoorRunMath
import Derived.Test.YtblibjjnbbleeaaDoorBmSame
namespace Go.Proofs.YtblibjjnbbleeaaDoor
open Go.RowKit Go.MapKept
namespace Rn
open Bm

/-- runs as they lie, in a block from B on -/
structure Rs (w : World) (B : Nat) (A : Option Addr) (l : List Run) : Prop where
  at' : ∀ j (h : j < l.length), ∃ b o, A = some ⟨b, o, none⟩ ∧ b < w.heap.size ∧ B ≤ b ∧ w.cell? ⟨b, o + j * 2, none⟩ = some (.int .i64 (l[j].1 : Int)) ∧ w.cell? ⟨b, o + j * 2 + 1, none⟩ = some (.int .i64 (l[j].2 : Int))
theorem Rs.keep {w w' : World} {B : Nat} {A : Option Addr} {l : List Run} (h : Rs w B A l) (hb : Below w.heap.size w w') : Rs w' B A l :=
  ⟨fun j hj => by
    obtain ⟨b, o, e, hlt, hB, hc, hd⟩ := h.at' j hj
    exact ⟨b, o, e, Nat.lt_of_lt_of_le hlt hb.size, hB, (hb.cell (p := ⟨b, o + j * 2, none⟩) hlt).trans hc, (hb.cell (p := ⟨b, o + j * 2 + 1, none⟩) hlt).trans hd⟩⟩
theorem Rs.chg {w w' : World} {B q : Nat} {A : Option Addr} {l : List Run} (h : Rs w B A l) (hb : Chg q w w') (hq : q < B) : Rs w' B A l :=
  ⟨fun j hj => by
    obtain ⟨b, o, e, hlt, hB, hc, hd⟩ := h.at' j hj
    exact ⟨b, o, e, Nat.lt_of_lt_of_le hlt hb.size, hB, (hb.cell (p := ⟨b, o + j * 2, none⟩) hlt (by simp only; omega)).trans hc, (hb.cell (p := ⟨b, o + j * 2 + 1, none⟩) hlt (by simp only; omega)).trans hd⟩⟩
theorem Rs.drew {w : World} {B : Nat} {A : Option Addr} {l : List Run} (h : Rs w B A l) : Rs w.drew B A l := h.keep (Below.refl _ _).drew
theorem Rs.less {w : World} {B B' : Nat} {A : Option Addr} {l : List Run} (h : Rs w B A l) (hB : B' ≤ B) : Rs w B' A l :=
  ⟨fun j hj => by
    obtain ⟨b, o, e, hlt, hB2, hc, hd⟩ := h.at' j hj
    exact ⟨b, o, e, hlt, by omega, hc, hd⟩⟩

/-- a run's value -/
abbrev rv (s c : Int) : Value := .agg #[.int .i64 s, .int .i64 c]

/-- two ints of the call's own in block b -/
structure Own2 (w : World) (b : Nat) (x y : Int) : Prop where
  lt : b < w.heap.size
  c0 : w.cell? ⟨b, 0, none⟩ = some (.int .i64 x)
  c1 : w.cell? ⟨b, 1, none⟩ = some (.int .i64 y)
  f : ∀ o, w.frozen? ⟨b, o, none⟩ = false
theorem Own2.keepN {w w' : World} {b N : Nat} {x y : Int} (h : Own2 w b x y) (hb : Below N w w') (hN : b < N) : Own2 w' b x y :=
  ⟨Nat.lt_of_lt_of_le h.lt hb.size, (hb.cell (p := ⟨b, 0, none⟩) hN).trans h.c0, (hb.cell (p := ⟨b, 1, none⟩) hN).trans h.c1, fun o => (hb.frozen (p := ⟨b, o, none⟩) hN).trans (h.f o)⟩
theorem Own2.keep {w w' : World} {b : Nat} {x y : Int} (h : Own2 w b x y) (hb : Below w.heap.size w w') : Own2 w' b x y := h.keepN hb h.lt
theorem Own2.drew {w : World} {b : Nat} {x y : Int} (h : Own2 w b x y) : Own2 w.drew b x y := ⟨h.lt, h.c0, h.c1, h.f⟩
theorem Own2.drewN {w : World} {b : Nat} {x y : Int} (h : Own2 w b x y) (k : Nat) : Own2 (w.drewN k) b x y := ⟨h.lt, h.c0, h.c1, h.f⟩
/-- both are stored anew -/
theorem Own2.put {w : World} {b : Nat} {x y : Int} (h : Own2 w b x y) (x' y' : Int) : Own2 ((w.setCell ⟨b, 0, none⟩ (.int .i64 x')).setCell ⟨b, 1, none⟩ (.int .i64 y')) b x' y' := by
  have e0 : ((w.setCell ⟨b, 0, none⟩ (.int .i64 x')).setCell ⟨b, 1, none⟩ (.int .i64 y')).cell? ⟨b, 0, none⟩ = some (.int .i64 x') := by
    rw [World.cell?_setCell_other _ _ _ _ (by simp)]
    exact World.cell?_setCell_same _ _ _ h.c0
  have e1 : ((w.setCell ⟨b, 0, none⟩ (.int .i64 x')).setCell ⟨b, 1, none⟩ (.int .i64 y')).cell? ⟨b, 1, none⟩ = some (.int .i64 y') :=
    World.cell?_setCell_same _ _ _ (u := .int .i64 y) (by rw [World.cell?_setCell_other _ _ _ _ (by simp)]; exact h.c1)
  exact ⟨by simpa [World.setCell] using h.lt, e0, e1, fun o => by simpa using h.f o⟩
theorem Own2.put1 {w : World} {b : Nat} {x y : Int} (h : Own2 w b x y) (y' : Int) : Own2 (w.setCell ⟨b, 1, none⟩ (.int .i64 y')) b x y' :=
  ⟨by simpa [World.setCell] using h.lt, by rw [World.cell?_setCell_other _ _ _ _ (by simp)]; exact h.c0, World.cell?_setCell_same _ _ _ h.c1, fun o => by simpa using h.f o⟩
theorem own2_new (w : World) (x y : Int) (t : TypeId) : Own2 (w.alloc (.cells #[.int .i64 x, .int .i64 y] t)) w.heap.size x y :=
  ⟨by simp, World.cell?_alloc_mark w _ t _ 0, World.cell?_alloc_mark w _ t _ 1, fun o => (World.rowIs_alloc w #[.int .i64 x, .int .i64 y] t (fun j => if j = 0 then .int .i64 x else .int .i64 y) (fun j hj => by
    have : j < 2 := hj
    match j, this with
    | 0, _ => rfl
    | 1, _ => rfl)).frozen o⟩

section
variable {w : World} {p q K C n : Nat} {f : Nat → Bool}
set_option maxRecDepth 100000 in
set_option maxHeartbeats 1000000 in
theorem freeFrom_none (h : Mp w p q K C n f) (hT : Tab w) (s : Nat) (hs : s ≤ 65534) (hF : From f n s []) :
    Calls Tryd.prog 31 #[.pointer (some ⟨p, 0, none⟩), .int .i64 (s : Int)] w fun e w' => e = .returned (.tuple #[rv 0 0, .bool false]) ∧ Below w.heap.size w w' := by
  have HO := Lib.hid (own2_new w 0 0 30)
  have hba := (Below.refl w.heap.size w).alloc (Nat.le_refl _) (.cells #[.int .i64 0, .int .i64 0] 30)
  have hn := next_any (h.keep hba) (hT.below hba hT.lt) (s : Int) false (by omega)
  rw [Int.toNat_natCast, hF.next_none] at hn
  have HN := Lib.hid hn
  have HB := Lib.hid hba
  clear hn h hT hF hba
  have hc0 := HO.out.c0
  have hc1 := HO.out.c1
  have hf0 := HO.out.f 0
  have hf1 := HO.out.f 1
  go_enter Tryd.func31, Tryd.ntmps31
  go_wp2_with fail
  generalize w.alloc (.cells #[.int .i64 0, .int .i64 0] 30) = w1 at *
  refine HN.out.mono ?_
  rintro e w2 ⟨rfl, rfl⟩
  go_wp2
  refine bodyPost_ret (v := .tuple #[rv 0 0, .bool false]) ?_ rfl ⟨rfl, ?_⟩
  · simp [results, Tryd.results31, go_sem, hc0, hc1]
  · exact (HB.out.setCell (Nat.le_refl _) _).setCell (Nat.le_refl _) _
set_option maxRecDepth 100000 in
set_option maxHeartbeats 1000000 in
theorem freeFrom_some (h : Mp w p q K C n f) (hT : Tab w) (s a c : Nat) (l : List Run) (hs : s ≤ 65534) (hF : From f n s ((a, c) :: l)) :
    Calls Tryd.prog 31 #[.pointer (some ⟨p, 0, none⟩), .int .i64 (s : Int)] w fun e w' => e = .returned (.tuple #[rv (a : Int) (c : Int), .bool true]) ∧ Below w.heap.size w w' := by
  have hmx := h.max
  obtain ⟨e1, h1, h2, h3, h4, -⟩ := hF.next_some
  have HO := Lib.hid (own2_new w 0 0 30)
  have hba := (Below.refl w.heap.size w).alloc (Nat.le_refl _) (.cells #[.int .i64 0, .int .i64 0] 30)
  have hn := next_any (h.keep hba) (hT.below hba hT.lt) (s : Int) false (by omega)
  rw [Int.toNat_natCast, e1] at hn
  have hm := next_any (h.keep hba) (hT.below hba hT.lt) (a : Int) true (by omega)
  rw [Int.toNat_natCast] at hm
  have HL := Lib.hid (len_any (h.keep hba))
  have HN := Lib.hid hn
  have HB := Lib.hid hba
  have ha : ¬ (a : Int) = -1 := by omega
  have hc0 := HO.out.c0
  have hc1 := HO.out.c1
  have hf0 := HO.out.f 0
  have hf1 := HO.out.f 1
  rcases h4 with ⟨h4, h5⟩ | h4
  · rw [h4] at hm
    have HM := Lib.hid hm
    have hsub : (n : Int) - (a : Int) = (c : Int) := by omega
    clear hn hm h hT hF h4 e1 hba
    go_enter Tryd.func31, Tryd.ntmps31
    go_wp2_with fail
    generalize w.alloc (.cells #[.int .i64 0, .int .i64 0] 30) = w1 at *
    refine HN.out.mono ?_
    rintro e w2 ⟨rfl, rfl⟩
    go_wp2_with fail
    refine HM.out.mono ?_
    rintro e w2 ⟨rfl, rfl⟩
    go_wp2_with fail
    refine HL.out.mono ?_
    rintro e w2 ⟨rfl, rfl⟩
    go_wp2
    refine bodyPost_ret (v := .tuple #[rv (a : Int) (c : Int), .bool true]) ?_ rfl ⟨rfl, ?_⟩
    · simp [results, Tryd.results31, go_sem, hc0, hc1]
    · exact (HB.out.setCell (Nat.le_refl _) _).setCell (Nat.le_refl _) _
  · rw [h4] at hm
    have HM := Lib.hid hm
    obtain ⟨k, hk⟩ : ∃ k, k = a + c := ⟨_, rfl⟩
    rw [← hk] at HM
    have hsub : (k : Int) - (a : Int) = (c : Int) := by omega
    have hk1 : ¬ (k : Int) = -1 := by omega
    have hk2 : k ≤ 65534 := by omega
    clear hn hm h hT hF h4 e1 hk hba
    go_enter Tryd.func31, Tryd.ntmps31
    go_wp2_with fail
    generalize w.alloc (.cells #[.int .i64 0, .int .i64 0] 30) = w1 at *
    refine HN.out.mono ?_
    rintro e w2 ⟨rfl, rfl⟩
    go_wp2_with fail
    refine HM.out.mono ?_
    rintro e w2 ⟨rfl, rfl⟩
    go_wp2
    refine bodyPost_ret (v := .tuple #[rv (a : Int) (c : Int), .bool true]) ?_ rfl ⟨rfl, ?_⟩
    · simp [results, Tryd.results31, go_sem, hc0, hc1]
    · exact (HB.out.setCell (Nat.le_refl _) _).setCell (Nat.le_refl _) _
end
end Rn
end Go.Proofs.YtblibjjnbbleeaaDoor
