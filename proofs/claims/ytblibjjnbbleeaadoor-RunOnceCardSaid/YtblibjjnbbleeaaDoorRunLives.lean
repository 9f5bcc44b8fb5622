/- The chapter's example; whether runs are the document's; a map drawn out of numbers. -/
import Derived.Test.YtblibjjnbbleeaaDoorRunTake
import Derived.Test.YtblibjjnbbleeaaDoorBmSame
import Derived.Test.YtblibjjnbbleeaaDoorBmRefW
namespace Go.Proofs.YtblibjjnbbleeaaDoor
open Go.RowKit Go.MapKept
namespace Rn
open Bm

set_option maxRecDepth 100000 in
set_option maxHeartbeats 1000000 in
theorem same_any (w : World) (B B' : Nat) (A A' : Option Addr) (c c' : Nat) (l : List Run) (h : Rs w B A l) (h' : Rs w B' A' l) (hl : l.length ≤ 1000000) :
    Calls Tryd.prog 15 #[.slice A l.length c, .slice A' l.length c'] w fun e w' => e = .returned (.bool true) ∧ ∃ n, w' = w.drewN n := by
  have H := Lib.hid h
  have H' := Lib.hid h'
  clear h h'
  go_enter Tryd.func15, Tryd.ntmps15
  go_wp2
  go_loopw [13] (fun i wr => ∃ k : Nat, k ≤ l.length ∧ i = .int .i64 (k : Int) ∧ ∃ n, wr = w.drewN n) (fun i _ => l.length - (intOf i).toNat)
  case atStart => exact ⟨0, Nat.zero_le _, rfl, 0, rfl⟩
  case round =>
    obtain ⟨k, hk, rfl, n, hw⟩ := hrel
    by_cases hlt : k < l.length
    · obtain ⟨b, o, rfl, _, _, hc0, hc1⟩ := (show Rs wr B A l from by rw [hw]; exact ⟨H.out.at'⟩).at' k hlt
      obtain ⟨b', o', rfl, _, _, hd0, hd1⟩ := (show Rs wr B' A' l from by rw [hw]; exact ⟨H'.out.at'⟩).at' k hlt
      have HW := Lib.hid hw
      clear hw
      generalize l[k] = r at *
      obtain ⟨a, x⟩ := r
      simp only at hc0 hc1 hd0 hd1
      have hi0 : (0 : Int) ≤ (k : Int) := by omega
      have hi1 : (k : Int) < (l.length : Int) := by omega
      go_wp2_with fail
      go_quiet (fail)
      go_wp2
      refine ⟨⟨k + 1, by omega, by go_num, ?_⟩, by simp [intOf]; omega⟩
      rw [HW.out]
      exact ⟨n + nq, by rw [World.drewN_drewN]⟩
    · obtain rfl : k = l.length := by omega
      have HW := Lib.hid hw
      clear hw
      go_wp2
      go_ret
      exact ⟨rfl, n, HW.out⟩

/-! The example. -/
def ex1 : Nat → Bool := (tn 6 true (fun _ => false) [1, 4]).1
theorem ex1_two : (tn 6 true (fun _ => false) [1, 4]).2 = 2 := by decide +kernel
theorem ex1_cho : cho (frs ex1 6) 3 = [(0, 1), (2, 2)] := by decide +kernel
theorem ex1_cnt : cnt ex1 6 = 2 := by decide +kernel

set_option maxRecDepth 100000 in
set_option maxHeartbeats 2000000 in
theorem lives_any (w : World) (hT : Tab w) : Calls Tryd.prog 8 #[] w fun e w' => e = .returned (.bool true) ∧ Below w.heap.size w w' := by
  have hlt := hT.lt
  have HT := Lib.hid hT
  have HN := Lib.hid (new_any 6 6 1 (by decide) (by decide) w)
  have HL := Lib.hid (fun (w' : World) (h : Tab w') => Bm.lives_any w' h)
  clear hT
  go_enter Tryd.func8, Tryd.ntmps8
  go_wp2_with fail
  refine HN.out.mono ?_
  rintro e w1 ⟨rfl, hM, hb1⟩
  have HM := Lib.hid hM
  have HB := Lib.hid hb1
  clear hM hb1
  go_wp2_with fail
  refine (HL.out _ (HT.out.below HB.out hlt)).mono ?_
  rintro e w2 ⟨rfl, hb2⟩
  have HM2 := Lib.hid (HM.out.keep hb2)
  have HB2 := Lib.hid (HB.out.trans (hb2.mono HB.out.size))
  have hsz : w.heap.size < w2.heap.size := HM2.out.row.lt
  clear hb2
  have hmA := HM2.out.keep ((Below.refl _ _).alloc (Nat.le_refl _) (.cells #[.int .i64 1, .int .i64 4] 3))
  have hput := put_any hmA (some ⟨w2.heap.size, 0, none⟩) 2 [1, 4] (nts_cells w2 [1, 4] (by intro x hx; simp at hx; omega) (by decide) HM2.out.row.lt)
  rw [ex1_two] at hput
  have HP := Lib.hid (show Calls Tryd.prog 25 #[.pointer (some ⟨w.heap.size + 1, 0, none⟩), .slice (some ⟨w2.heap.size, 0, none⟩) 2 2] (w2.alloc (.cells #[.int .i64 1, .int .i64 4] 3)) fun e w' => e = .returned (.int .i64 2) ∧ Mp w' (w.heap.size + 1) w.heap.size 1 1 6 ex1 ∧ Chg w.heap.size (w2.alloc (.cells #[.int .i64 1, .int .i64 4] 3)) w' from hput)
  clear hmA hput
  go_wp2_with fail
  refine HP.out.mono ?_
  rintro e w3 ⟨rfl, hM3, hC3⟩
  have HM3 := Lib.hid hM3
  have HC3 := Lib.hid (((Chg.refl w.heap.size w2).alloc _).trans hC3)
  have HB3 := Lib.hid (HB2.out.trans (HC3.out.below (Nat.le_of_lt hsz) (Nat.le_refl _)))
  clear hM3 hC3
  have htk := take_yes HM3.out (HT.out.below HB3.out hlt) (Nat.ne_of_lt hlt) 3 (by rw [ex1_cnt]; decide)
  rw [ex1_cho] at htk
  have HTK := Lib.hid htk
  clear htk
  go_wp2_with fail
  refine HTK.out.mono ?_
  rintro e w4 ⟨G, gc, rfl, hrs, hM4, hC4⟩
  have HB4 := Lib.hid (HB3.out.trans (hC4.below HB3.out.size (Nat.le_refl _)))
  obtain ⟨b, o, rfl, _, _, hc0, hc1⟩ := hrs.at' 0 (by decide)
  obtain ⟨b2, o2, e2, _, _, hd0, hd1⟩ := hrs.at' 1 (by decide)
  injection e2 with e2
  injection e2 with e3 e4
  subst e3
  subst e4
  clear hrs hM4 hC4
  simp only [List.getElem_cons_zero, List.getElem_cons_succ, Nat.zero_mul, Nat.add_zero, Nat.one_mul, List.length_cons, List.length_nil] at hc0 hc1 hd0 hd1 ⊢
  go_wp2
  go_ret
  exact ⟨rfl, HB4.out⟩

/-! A map out of numbers. -/
/-- unsigned numbers as they lie -/
structure Uns (kd : IntKind) (w : World) (A : Option Addr) (l : List Nat) : Prop where
  at' : ∀ j (h : j < l.length), ∃ b o, A = some ⟨b, o, none⟩ ∧ b < w.heap.size ∧ w.cell? ⟨b, o + j, none⟩ = some (.int kd (l[j] : Int))
theorem Uns.keep {kd : IntKind} {w w' : World} {A : Option Addr} {l : List Nat} (h : Uns kd w A l) (hb : Below w.heap.size w w') : Uns kd w' A l :=
  ⟨fun j hj => by
    obtain ⟨b, o, e, hlt, hc⟩ := h.at' j hj
    exact ⟨b, o, e, Nat.lt_of_lt_of_le hlt hb.size, (hb.cell (p := ⟨b, o + j, none⟩) hlt).trans hc⟩⟩
/-- which blocks a drawn map has -/
def drw (k : Nat) (us : List Nat) : Nat → Bool := us.foldl (fun f u => trn k true f ((u % k : Nat) : Int)) (fun _ => false)
theorem drw_take {k : Nat} {us : List Nat} {j : Nat} (h : j < us.length) : drw k (us.take (j + 1)) = trn k true (drw k (us.take j)) ((us[j] % k : Nat) : Int) := by
  unfold drw
  rw [List.take_succ_eq_append_getElem h, List.foldl_append]
  rfl
/-- what is drawn: the map in P, its words in Q, and the document's -/
def Drw (w : World) (k : Nat) (us : List Nat) (e : Ending) (w' : World) : Prop :=
  ∃ (A : Option Addr) (c : Nat), e = .returned (.tuple #[.pointer (some ⟨w.heap.size + 1, 0, none⟩), .slice A k c]) ∧ Mp w' (w.heap.size + 1) w.heap.size ((k + 63) / 64) ((k + 63) / 64) k (drw k us) ∧ Bls w' w.heap.size A k (drw k us) ∧ Below w.heap.size w w'

set_option maxRecDepth 100000 in
set_option maxHeartbeats 2000000 in
theorem draw_any (w : World) (n : Nat) (hn : n < 65536) (A : Option Addr) (c : Nat) (us : List Nat) (h : Uns .u16 w A us) (hu : ∀ u ∈ us, u < 65536) (hl : us.length ≤ 9223372036854775807) :
    Calls Tryd.prog 9 #[.int .u16 (n : Int), .slice A us.length c] w (Drw w (1 + n % 200) us) := by
  obtain ⟨d, hd⟩ : ∃ d, d = n % 200 := ⟨_, rfl⟩
  have hd200 : d < 200 := by omega
  have hdn : (n : Int) % 200 = (d : Int) := by omega
  rw [← hd]
  obtain ⟨kk, hkk⟩ : ∃ kk, kk = 1 + d := ⟨_, rfl⟩
  have hk1 : 1 ≤ kk := by omega
  have hk2 : kk ≤ 200 := by omega
  have hkd : 1 + (d : Int) = (kk : Int) := by omega
  rw [← hkk]
  have HN := Lib.hid (new_any (kk : Int) kk ((kk + 63) / 64) (by omega) rfl w)
  have HRN := Lib.hid (fun (w' : World) (hq : w.heap.size < w'.heap.size) => refNew_any (w := w') (q := w.heap.size) (kk : Int) kk (by omega) hq)
  have H := Lib.hid h
  have HU := Lib.hid hu
  obtain ⟨K, hK⟩ : ∃ K, K = (kk + 63) / 64 := ⟨_, rfl⟩
  rw [← hK] at HN
  have HK := Lib.hid hK
  clear h hu hkk hd hK
  go_enter Tryd.func9, Tryd.ntmps9
  go_wp2_with fail
  refine HN.out.mono ?_
  rintro e w1 ⟨rfl, hM, hb1⟩
  have HM := Lib.hid hM
  have HB := Lib.hid hb1
  have hlt1 := hM.row.lt
  clear hM hb1
  go_wp2_with fail
  refine (HRN.out w1 hlt1).mono ?_
  rintro e w2 ⟨rfl, hbl, hb2⟩
  have HM2 := Lib.hid (HM.out.keep hb2)
  have HL2 := Lib.hid hbl
  have HB2 := Lib.hid (HB.out.trans (hb2.mono HB.out.size))
  clear hbl hb2
  go_wp2
  go_loopw [8, 21] (fun bv i wr => ∃ (j : Nat) (R : Option Addr) (rc : Nat), j ≤ us.length ∧ i = .int .i64 (j : Int) ∧ bv = .slice R kk rc ∧ Bls wr w.heap.size R kk (drw kk (us.take j)) ∧ Mp wr (w.heap.size + 1) w.heap.size K K kk (drw kk (us.take j)) ∧ Below w.heap.size w wr) (fun _ i _ => us.length - (intOf i).toNat)
  case atStart => exact ⟨0, _, _, Nat.zero_le _, rfl, rfl, HL2.out, HM2.out, HB2.out⟩
  case round =>
    obtain ⟨j, R, rc, hj, rfl, rfl, hbl, hM, hb⟩ := hrel
    by_cases hlt : j < us.length
    · obtain ⟨b, o, rfl, hbb, hcell⟩ := (H.out.keep hb).at' j hlt
      have HD := Lib.hid (drw_take (k := kk) hlt)
      have hu5 := HU.out us[j] (List.getElem_mem _)
      generalize drw kk (us.take j) = f at *
      generalize us[j] = u at *
      obtain ⟨x, hx⟩ : ∃ x, x = u % kk := ⟨_, rfl⟩
      rw [← hx] at HD
      have hxk : x < kk := by rw [hx]; exact Nat.mod_lt _ (by omega)
      have hux : (u : Int) % (kk : Int) = (x : Int) := by rw [hx]; rfl
      have hk0 : ¬ (kk : Int) = 0 := by omega
      have hi0 : (0 : Int) ≤ (j : Int) := by omega
      have hi1 : (j : Int) < (us.length : Int) := by omega
      have hp := put1_any hM (x : Int) (by omega) (by omega) 1
      generalize (if trd kk true f (x : Int) = true then 1 else 0 : Nat) = pn at hp
      have HP := Lib.hid hp
      clear hp
      have HM3 := Lib.hid hM
      have HBL := Lib.hid hbl
      have HB3 := Lib.hid hb
      have hwl := hM.row.lt
      clear hM hbl hb hx
      go_wp2_with fail
      refine HP.out.mono ?_
      rintro e w3 ⟨rfl, hM3, hC3⟩
      have HM4 := Lib.hid hM3
      have HB4 := Lib.hid (HB3.out.trans (hC3.below HB3.out.size (Nat.le_refl _)))
      have HT := Lib.hid (turn_any R rc (HBL.out.chg hC3) (by omega) hM3.row.lt (x : Int) true)
      clear hM3 hC3
      go_wp2_with fail
      refine HT.out.mono ?_
      rintro e w4 ⟨R2, rc2, rfl, hbl2, hb4⟩
      have HM5 := Lib.hid (HM4.out.keep hb4)
      have HL5 := Lib.hid hbl2
      have HB5 := Lib.hid (HB4.out.trans (hb4.mono HB4.out.size))
      clear hbl2 hb4
      go_wp2
      refine ⟨⟨j + 1, R2, rc2, by omega, by go_num, rfl, by rw [HD.out]; exact HL5.out, by rw [HD.out]; exact HM5.out, HB5.out⟩, by simp [intOf]; omega⟩
    · obtain rfl : j = us.length := by omega
      rw [List.take_length] at hbl hM
      have HX := Lib.hid (show Drw w kk us (.returned (.tuple #[.pointer (some ⟨w.heap.size + 1, 0, none⟩), .slice R kk rc])) wr from ⟨R, rc, rfl, by rw [← HK.out]; exact hM, hbl, hb⟩)
      clear hbl hM hb
      go_wp2
      go_ret2
      exact HX.out
end Rn
end Go.Proofs.YtblibjjnbbleeaaDoor
