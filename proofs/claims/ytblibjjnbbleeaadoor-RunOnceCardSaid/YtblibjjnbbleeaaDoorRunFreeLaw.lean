/- RunFree, walked. -/
import Derived.Test.YtblibjjnbbleeaaDoorRunLives
import Derived.Test.YtblibjjnbbleeaaDoorRunRef
namespace Go.Proofs.YtblibjjnbbleeaaDoor
open Go.RowKit Go.MapKept
namespace Rn
open Bm

/-- of whatever count -/
def fitI (L : List Run) (x : Int) : Option Run := if x < 1 then none else fit L x.toNat
theorem fit_int {w : World} {p q K C n : Nat} {f : Nat → Bool} (h : Mp w p q K C n f) (hT : Tab w) (x : Int) (hx : x ≤ 9223372036854775807) :
    Calls Tryd.prog 10 #[.pointer (some ⟨p, 0, none⟩), .int .i64 x] w fun e w' => e = .returned (fv (fitI (frs f n) x)) ∧ Below w.heap.size w w' := by
  unfold fitI
  split
  · rename_i h0
    exact fit_low x h0
  · obtain ⟨c, rfl⟩ := Int.eq_ofNat_of_zero_le (show 0 ≤ x by omega)
    exact fit_any h hT c (by omega) (by omega)
theorem refFit_int {w : World} {q n : Nat} {f : Nat → Bool} (A : Option Addr) (c : Nat) (h : Bls w q A n f) (hn : n ≤ 65534) (x : Int) (hx : x ≤ 9223372036854775807) :
    Calls Tryd.prog 14 #[.slice A n c, .int .i64 x] w fun e w' => e = .returned (fv (fitI (frs f n) x)) ∧ Below w.heap.size w w' := by
  unfold fitI
  split
  · rename_i h0
    exact refFit_low A c x h0
  · obtain ⟨k, rfl⟩ := Int.eq_ofNat_of_zero_le (show 0 ≤ x by omega)
    exact refFit_any A c h hn k (by omega) (by omega)
theorem fv_is (o : Option Run) : ∃ (s k : Int) (b : Bool), fv o = .tuple #[rv s k, .bool b] := by
  cases o with
  | none => exact ⟨0, 0, false, rfl⟩
  | some r => exact ⟨_, _, true, rfl⟩

/-- the map and the document's, and that all else is as it was -/
structure Fx (w0 w : World) (n : Nat) (f : Nat → Bool) (A : Option Addr) : Prop where
  M : Mp w (w0.heap.size + 1) w0.heap.size ((n + 63) / 64) ((n + 63) / 64) n f
  L : Bls w w0.heap.size A n f
  B : Below w0.heap.size w0 w
theorem Fx.keep {w0 w w' : World} {n : Nat} {f : Nat → Bool} {A : Option Addr} (h : Fx w0 w n f A) (hb : Below w.heap.size w w') : Fx w0 w' n f A := ⟨h.M.keep hb, h.L.keep hb, h.B.trans (hb.mono h.B.size)⟩
theorem Fx.drewN {w0 w : World} {n : Nat} {f : Nat → Bool} {A : Option Addr} (h : Fx w0 w n f A) (k : Nat) : Fx w0 (w.drewN k) n f A := ⟨h.M.drewN k, h.L.drewN k, below_drewN h.B k⟩
theorem drw_max (n : Nat) : 1 + n % 200 ≤ 200 := by omega

set_option maxRecDepth 100000 in
set_option maxHeartbeats 2000000 in
theorem free_law (w : World) (hT : Tab w) (n : Nat) (hn : n < 65536) (A : Option Addr) (c : Nat) (us : List Nat) (h : Uns .u16 w A us) (hu : ∀ u ∈ us, u < 65536) (hl : us.length ≤ 9223372036854775807) (x : Int) (hx2 : x ≤ 9223372036854775807) :
    Calls Tryd.prog 4 #[.int .u16 (n : Int), .slice A us.length c, .int .i64 x] w fun e w' => e = .returned (.bool true) ∧ Below w.heap.size w w' := by
  have hlt := hT.lt
  have HT := Lib.hid hT
  have HL := Lib.hid (fun (w' : World) (h : Tab w') => lives_any w' h)
  have HD := Lib.hid (fun (w' : World) (h : Uns .u16 w' A us) => draw_any w' n hn A c us h hu hl)
  have H := Lib.hid h
  clear hT h hu
  by_cases hlen : us.length ≤ 200
  · have hl1 : ¬ (200 : Int) < (us.length : Int) := by omega
    have hk := drw_max n
    generalize 1 + n % 200 = kk at *
    go_enter Tryd.func4, Tryd.ntmps4
    go_wp2_with fail
    refine (HL.out _ HT.out).mono ?_
    rintro e w1 ⟨rfl, hb1⟩
    have HB1 := Lib.hid hb1
    clear hb1
    go_wp2_with fail
    refine (HD.out _ (H.out.keep HB1.out)).mono ?_
    rintro e w2 ⟨R, rc, rfl, hM, hL, hB⟩
    have HF := Lib.hid (show Fx w1 w2 kk (drw kk us) R from ⟨hM, hL, hB⟩)
    have hT1 := HT.out.below HB1.out hlt
    have HT2 := Lib.hid (fun (w' : World) (h : Below w1.heap.size w1 w') => hT1.below h hT1.lt)
    clear hM hL hB hT1
    generalize drw kk us = f at *
    have HFI := Lib.hid (fit_int HF.out.M (HT2.out _ HF.out.B) x hx2)
    have HRI := Lib.hid (fun (w' : World) (h : Bls w' w1.heap.size R kk f) => refFit_int R rc h (by omega) x hx2)
    obtain ⟨s, k, b, hfv⟩ := fv_is (fitI (frs f kk) x)
    rw [hfv] at HFI HRI
    clear hfv
    go_wp2_with fail
    refine HFI.out.mono ?_
    rintro e w3 ⟨rfl, hb3⟩
    have HF3 := Lib.hid ((HF.out.keep hb3).keep ((Below.refl _ _).alloc (Nat.le_refl _) (.cells #[.int .i64 s, .int .i64 k] 30)))
    have HO3 := Lib.hid (own2_new w3 s k 30)
    clear hb3
    go_wp2_with fail
    generalize hw4 : w3.alloc (.cells #[.int .i64 s, .int .i64 k] 30) = w4 at *
    clear hw4
    generalize w3.heap.size = z3 at *
    refine (HRI.out _ HF3.out.L).mono ?_
    rintro e w5 ⟨rfl, hb5⟩
    have hb6 := (Below.refl w5.heap.size w5).alloc (Nat.le_refl _) (.cells #[.int .i64 s, .int .i64 k] 37)
    have HF5 := Lib.hid ((HF3.out.keep hb5).keep hb6)
    have HO5 := Lib.hid ((HO3.out.keep hb5).keep hb6)
    have HP5 := Lib.hid (own2_new w5 s k 37)
    clear hb5 hb6
    go_wp2_with fail
    generalize hw6 : w5.alloc (.cells #[.int .i64 s, .int .i64 k] 37) = w6 at *
    clear hw6
    generalize w5.heap.size = z5 at *
    refine (free_any' HF5.out.M (HT2.out _ HF5.out.B)).mono ?_
    rintro e w7 ⟨G, gc, rfl, hrs7, hb7⟩
    have HF7 := Lib.hid (HF5.out.keep hb7)
    have HO7 := Lib.hid (HO5.out.keep hb7)
    have HP7 := Lib.hid (HP5.out.keep hb7)
    have HR7 := Lib.hid hrs7
    clear hrs7 hb7
    go_wp2_with fail
    refine (refFree_any R rc HF7.out.L (by omega)).mono ?_
    rintro e w8 ⟨G2, gc2, rfl, hrs8, hb8⟩
    have HF8 := Lib.hid (HF7.out.keep hb8)
    have HO8 := Lib.hid (HO7.out.keep hb8)
    have HP8 := Lib.hid (HP7.out.keep hb8)
    have HS := Lib.hid (same_any w8 _ _ G G2 gc gc2 _ (HR7.out.keep hb8) hrs8 (by have := frs_len f kk; omega))
    clear hrs8 hb8
    go_wp2_with fail
    refine HS.out.mono ?_
    rintro e w9 ⟨rfl, k9, rfl⟩
    have hc0 := HO8.out.c0
    have hc1 := HO8.out.c1
    have hd0 := HP8.out.c0
    have hd1 := HP8.out.c1
    go_wp2_with fail
    have HF9 := Lib.hid (HF8.out.drewN k9)
    generalize w8.drewN k9 = w9 at *
    clear HF8 HO8 HP8 hc0 hc1 hd0 hd1
    refine (lawSame_any HF9.out.M R rc HF9.out.L).mono ?_
    rintro e w10 ⟨rfl, hb10⟩
    have HF10 := Lib.hid (HF9.out.keep hb10)
    clear hb10
    go_wp2_with fail
    refine (free_any' HF10.out.M (HT2.out _ HF10.out.B)).mono ?_
    rintro e w11 ⟨G3, gc3, rfl, hrs11, hb11⟩
    have HF11 := Lib.hid (HF10.out.keep hb11)
    have HTT := Lib.hid (total_any w11 _ G3 gc3 _ hrs11 (by have := frs_len f kk; omega) (by rw [tot_frs]; omega))
    clear hrs11 hb11
    rw [tot_frs] at HTT
    have hcl := cnt_le f kk
    generalize (frs f kk).length = LL at *
    go_wp2_with fail
    refine HTT.out.mono ?_
    rintro e w12 ⟨rfl, hb12⟩
    have HF12 := Lib.hid (HF11.out.keep hb12)
    clear hb12
    go_wp2_with fail
    refine (free_any HF12.out.M).mono ?_
    rintro e w13 ⟨rfl, k13, rfl⟩
    go_wp2
    go_ret
    exact ⟨rfl, HB1.out.trans ((HF12.out.drewN k13).B.mono HB1.out.size)⟩
  · have hl1 : (200 : Int) < (us.length : Int) := by omega
    go_enter Tryd.func4, Tryd.ntmps4
    go_wp2_with fail
    refine (HL.out _ HT.out).mono ?_
    rintro e w1 ⟨rfl, hb1⟩
    have HB1 := Lib.hid hb1
    clear hb1
    go_wp2_with fail
    refine (HL.out _ (HT.out.below HB1.out hlt)).mono ?_
    rintro e w2 ⟨rfl, hb2⟩
    have HB2 := Lib.hid (HB1.out.trans (hb2.mono HB1.out.size))
    clear hb2
    go_wp2
    go_ret
    exact ⟨rfl, HB2.out⟩
end Rn
end Go.Proofs.YtblibjjnbbleeaaDoor
