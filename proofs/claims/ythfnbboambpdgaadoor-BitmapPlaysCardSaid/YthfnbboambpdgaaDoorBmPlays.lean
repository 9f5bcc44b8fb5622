/- BitmapPlays, walked. -/
import Derived.Test.YthfnbboambpdgaaDoorBmActs
namespace Go.Proofs.YthfnbboambpdgaaDoor
open Go.RowKit Go.MapKept
namespace Bm
open Pack (Wds Nts)

/-- the map is f, the document's is g, and what was there ahead of the call is as it was -/
structure Pl (w0 : World) (p q K m : Nat) (f g : Nat → Bool) (A : Option Addr) (w : World) : Prop where
  map : Mp w p q K K m f
  bls : Bls w q A m g
  below : Below w0.heap.size w0 w
  bq : w0.heap.size ≤ q
section
variable {w0 w w' : World} {p q K m : Nat} {f g f' g' : Nat → Bool} {A A' : Option Addr}
theorem Pl.size (h : Pl w0 p q K m f g A w) : w0.heap.size ≤ w.heap.size := h.below.size
theorem Pl.keep (h : Pl w0 p q K m f g A w) (hb : Below w.heap.size w w') : Pl w0 p q K m f g A w' := ⟨h.map.keep hb, h.bls.keep hb, h.below.trans (hb.mono h.size), h.bq⟩
theorem Pl.drewN (h : Pl w0 p q K m f g A w) (k : Nat) : Pl w0 p q K m f g A (w.drewN k) := h.keep (below_drewN (Below.refl _ _) k)
theorem Pl.turn (h : Pl w0 p q K m f g A w) (hb : Below w.heap.size w w') (hB : Bls w' q A' m g') : Pl w0 p q K m f g' A' w' := ⟨h.map.keep hb, hB, h.below.trans (hb.mono h.size), h.bq⟩
theorem Pl.chg (h : Pl w0 p q K m f g A w) (hc : Chg q w w') (hM : Mp w' p q K K m f') : Pl w0 p q K m f' g A w' := ⟨hM, h.bls.chg hc, h.below.trans (hc.below h.size h.bq), h.bq⟩
end


section
variable {w : World}
set_option maxRecDepth 100000 in
set_option maxHeartbeats 1000000 in
theorem plays_long (n : Int) (A : Option Addr) (c k : Nat) (F : Nat → ActV) (hF : Acts w A k F) (hT : Tab w) (hn : 300 < n) :
    Calls Tryd.prog 3 #[.int .i64 n, .slice A k c] w fun r w' => r = .returned (.bool true) ∧ Below w.heap.size w w' := by
  have htl := hT.lt
  have HT := Lib.hid hT
  have HF := Lib.hid hF
  clear hT hF
  go_enter Tryd.func3, Tryd.ntmps3
  go_wp2_with fail
  refine (lives_any _ HT.out).mono ?_
  rintro e w1 ⟨rfl, hb⟩
  have HB := Lib.hid hb
  have HF1 := Lib.hid (⟨HF.out.len, fun i hi => by
    obtain ⟨b, o, e, h⟩ := HF.out.at' i hi
    exact ⟨b, o, e, h.keep hb⟩, fun i hi => (HF.out.nts i hi).keep hb, HF.out.bnd⟩ : Acts w1 A k F)
  clear hb
  go_wp2_with fail
  refine (few_any A k c F HF1.out).mono ?_
  rintro e w2 ⟨bb, rfl, hb⟩
  have HB2 := Lib.hid (HB.out.trans (hb.mono HB.out.size))
  clear hb HF1
  cases bb <;>
  · go_wp2_with fail
    refine (lives_any _ (HT.out.below HB2.out htl)).mono ?_
    rintro e w3 ⟨rfl, hb⟩
    have HB3 := Lib.hid (HB2.out.trans (hb.mono HB2.out.size))
    clear hb
    go_wp2
    go_ret
    exact ⟨rfl, HB3.out⟩

set_option maxRecDepth 100000 in
set_option maxHeartbeats 8000000 in
theorem plays_core (n : Int) (A : Option Addr) (c k : Nat) (F : Nat → ActV) (hF : Acts w A k F) (hT : Tab w) (hn : ¬ 300 < n) :
    Calls Tryd.prog 3 #[.int .i64 n, .slice A k c] w fun r w' => r = .returned (.bool true) ∧ Below w.heap.size w w' := by
  have htl := hT.lt
  have HT := Lib.hid hT
  have HF := Lib.hid hF
  have hk := hF.len
  obtain ⟨m, hm⟩ : ∃ m : Nat, (m : Int) = min (max n 0) 65534 := ⟨(min (max n 0) 65534).toNat, by omega⟩
  have hm3 : m ≤ 300 := by omega
  obtain ⟨K, hK⟩ : ∃ K : Nat, K = (m + 63) / 64 := ⟨_, rfl⟩
  have HN := Lib.hid (fun w => new_any n m K hm hK w)
  have HRN := Lib.hid (fun (w : World) (q : Nat) (hq : q < w.heap.size) => refNew_any (w := w) (q := q) n m hm hq)
  clear hT hF hm hK
  go_enter Tryd.func3, Tryd.ntmps3
  go_wp2_with fail
  refine (lives_any _ HT.out).mono ?_
  rintro e w1 ⟨rfl, hb⟩
  have HB := Lib.hid hb
  have HF1 := Lib.hid (⟨HF.out.len, fun i hi => by
    obtain ⟨b, o, e, h⟩ := HF.out.at' i hi
    exact ⟨b, o, e, h.keep hb⟩, fun i hi => (HF.out.nts i hi).keep hb, HF.out.bnd⟩ : Acts w1 A k F)
  clear hb
  go_wp2_with fail
  refine (few_any A k c F HF1.out).mono ?_
  rintro e w2 ⟨bb, rfl, hb⟩
  have HB2 := Lib.hid (HB.out.trans (hb.mono HB.out.size))
  clear hb HF1
  cases bb with
  | false =>
    go_wp2_with fail
    refine (lives_any _ (HT.out.below HB2.out htl)).mono ?_
    rintro e w3 ⟨rfl, hb⟩
    have HB3 := Lib.hid (HB2.out.trans (hb.mono HB2.out.size))
    clear hb
    go_wp2
    go_ret
    exact ⟨rfl, HB3.out⟩
  | true =>
    go_wp2_with fail
    refine (HN.out _).mono ?_
    rintro e w3 ⟨rfl, hM, hb⟩
    have HM := Lib.hid hM
    have HB3 := Lib.hid (HB2.out.trans (hb.mono HB2.out.size))
    have hs2 := HB2.out.size
    clear hM hb
    go_wp2_with fail
    refine (HRN.out _ _ HM.out.row.lt).mono ?_
    rintro e w4 ⟨rfl, hbl, hb⟩
    obtain ⟨q, hq⟩ : ∃ q, q = w2.heap.size := ⟨_, rfl⟩
    have HP0 := Lib.hid (show Pl w (q + 1) q K m (fun _ => false) (fun _ => false) (some ⟨w3.heap.size, 0, none⟩) w4 from hq ▸ ⟨HM.out.keep hb, hbl, HB3.out.trans (hb.mono HB3.out.size), hs2⟩)
    have hq1 : w.heap.size ≤ q := by omega
    rw [← hq]
    clear hbl hb HM HB3 HN HRN HB HB2 hs2 hq
    go_wp2_with fail
    go_loopw [36, 6] (fun ix ws wr => ∃ (i : Nat) (f : Nat → Bool) (A1 : Option Addr) (c1 : Nat), i ≤ k ∧ ix = .int .i64 (i : Int) ∧ ws = .slice A1 m c1 ∧ Pl w (q + 1) q K m f f A1 wr) (fun ix _ _ => k - (intOf ix).toNat)
    case atStart => exact ⟨0, _, _, _, Nat.zero_le _, rfl, rfl, HP0.out⟩
    case round =>
      clear HP0
      obtain ⟨wo, hwo⟩ : ∃ wo, wo = wr := ⟨_, rfl⟩
      subst hwo
      obtain ⟨i, f, A1, c1, hi, rfl, rfl, hP⟩ := hrel
      by_cases hlt : i < k
      · obtain ⟨b, o, rfl, ha0⟩ := HF.out.at' i hlt
        have hnt := HF.out.nts i hlt
        obtain ⟨hk8, hab, hbb⟩ := HF.out.bnd i hlt
        have ha := ha0.keep hP.below
        generalize F i = v at *
        have a0 := ha.c0
        have a1 := ha.c1
        have a2 := ha.c2
        have a3 := ha.c3
        have hi0 : (0 : Int) ≤ (i : Int) := by omega
        have hi1 : (i : Int) < (k : Int) := by omega
        have hba : Below wo.heap.size wo (wo.alloc (.cells #[.int .u8 (v.k : Int), .int .i64 v.a, .int .i64 v.b, .slice v.c v.l.length v.cap] 31)) := (Below.refl _ _).alloc (Nat.le_refl _) _
        have HPA := Lib.hid (hP.keep hba)
        have HX := Lib.hid (act_new wo v)
        have hxq : wo.heap.size ≠ q := Nat.ne_of_gt hP.map.row.lt
        have HNT := Lib.hid (fun w' (h : Pl w (q + 1) q K m f f A1 w' ∨ Below w.heap.size w w') => hnt.keep (h.elim (fun h => h.below) id))
        have hlen := hnt.len
        have hqs := hP.map.row.lt
        clear ha ha0 hP hba hnt
        obtain ⟨vk, va, vb, vl, vc, vcap⟩ := v
        simp only at a0 a1 a2 a3 hk8 hab hbb HPA HX HNT hlen
        by_cases h0 : vk % 4 = 0
        · have hk0 : ((vk : Int) % 4 == 0) = true := by simp; omega
          clear h0
          go_wp2_with fail
          go_loopw [9, 66, 6] (fun kc ix ws w2 => ∃ (j : Nat) (A2 : Option Addr) (c2 : Nat), j ≤ vl.length ∧ ix = .int .i64 (j : Int) ∧ kc = .int .i64 ((tn m true f (vl.take j)).2 : Int) ∧ ws = .slice A2 m c2 ∧ Pl w (q + 1) q K m f (tn m true f (vl.take j)).1 A2 w2 ∧ ActAt w2 wo.heap.size 0 ⟨vk, va, vb, vl, vc, vcap⟩) (fun _ ix _ _ => vl.length - (intOf ix).toNat)
          case atStart => exact ⟨0, A1, c1, Nat.zero_le _, rfl, rfl, rfl, HPA.out, HX.out⟩
          case round =>
            obtain ⟨j, A2, c2, hj, rfl, rfl, rfl, hP2, hX2⟩ := hrel
            clear a0 a1 a2 a3
            have x0 : wr.cell? ⟨wo.heap.size, 0, none⟩ = some (.int .u8 (vk : Int)) := hX2.c0
            have x3 : wr.cell? ⟨wo.heap.size, 3, none⟩ = some (.slice vc vl.length vcap) := hX2.c3
            by_cases hjl : j < vl.length
            · obtain ⟨b2, o2, rfl, hb2, hcell2⟩ := (HNT.out _ (.inr hP2.below)).at' j hjl
              have hle := tn_le m true f vl j hj
              have HS := Lib.hid (tn_step m true f vl j hjl)
              have HP2 := Lib.hid hP2
              have HX2 := Lib.hid hX2
              have hj0 : (0 : Int) ≤ (j : Int) := by omega
              have hj1 : (j : Int) < (vl.length : Int) := by omega
              generalize tn m true f (vl.take j) = X at *
              obtain ⟨g, cn⟩ := X
              simp only at hle HP2 HS
              have HTN := Lib.hid (turn_any A2 c2 HP2.out.bls (by omega) HP2.out.map.row.lt vl[j] true)
              generalize vl[j] = x at *
              clear hP2 hX2
              go_wp2_with fail
              refine HTN.out.mono ?_
              rintro e w5 ⟨A3, c3, rfl, hB3, hb3⟩
              have HP3 := Lib.hid (HP2.out.turn hb3 hB3)
              have HX3 := Lib.hid (HX2.out.keep hb3)
              unfold tnp at HS
              simp only at HS
              clear hB3 hb3
              cases htd : trd m true g x with
              | true =>
                rw [htd] at HS
                go_wp2
                exact ⟨⟨j + 1, A3, c3, by omega, by go_num, by rw [HS.out]; go_num, rfl, by rw [HS.out]; exact HP3.out, HX3.out⟩, by simp [intOf]; omega⟩
              | false =>
                rw [htd] at HS
                go_wp2
                exact ⟨⟨j + 1, A3, c3, by omega, by go_num, by rw [HS.out]; rfl, rfl, by rw [HS.out]; exact HP3.out, HX3.out⟩, by simp [intOf]; omega⟩
            · obtain rfl : j = vl.length := by omega
              rw [List.take_length] at hP2 ⊢
              have HP2 := Lib.hid hP2
              have hle := tn_le m true f vl vl.length (Nat.le_refl _)
              rw [List.take_length] at hle
              have HPT := Lib.hid (put_any HP2.out.map vc vcap vl (fun w' hc => HNT.out w' (.inr (HP2.out.below.trans (hc.below HP2.out.size HP2.out.bq)))))
              generalize tn m true f vl = X at *
              obtain ⟨g, cn⟩ := X
              simp only at hle HP2 HPT
              clear hP2 hX2
              go_wp2_with fail
              refine HPT.out.mono ?_
              rintro e w5 ⟨rfl, hM5, hC5⟩
              have HPE := Lib.hid (HP2.out.chg hC5 hM5)
              clear hM5 hC5
              go_wp2_with fail
              refine (lawSame_any HPE.out.map A2 c2 HPE.out.bls).mono ?_
              rintro e wE ⟨rfl, hbE⟩
              have HPF := Lib.hid (HPE.out.keep hbE)
              clear hbE
              go_wp2
              exact ⟨⟨i + 1, g, A2, c2, by omega, by go_num, rfl, HPF.out⟩, by simp [intOf]; omega⟩
        · by_cases h1 : vk % 4 = 1
          · have hk0 : ((vk : Int) % 4 == 0) = false := by simp; omega
            have hk1 : ((vk : Int) % 4 == 1) = true := by simp; omega
            clear h0 h1
            go_wp2_with fail
            go_loopw [9, 66, 6] (fun kc ix ws w2 => ∃ (j : Nat) (A2 : Option Addr) (c2 : Nat), j ≤ vl.length ∧ ix = .int .i64 (j : Int) ∧ kc = .int .i64 ((tn m false f (vl.take j)).2 : Int) ∧ ws = .slice A2 m c2 ∧ Pl w (q + 1) q K m f (tn m false f (vl.take j)).1 A2 w2 ∧ ActAt w2 wo.heap.size 0 ⟨vk, va, vb, vl, vc, vcap⟩) (fun _ ix _ _ => vl.length - (intOf ix).toNat)
            case atStart => exact ⟨0, A1, c1, Nat.zero_le _, rfl, rfl, rfl, HPA.out, HX.out⟩
            case round =>
              obtain ⟨j, A2, c2, hj, rfl, rfl, rfl, hP2, hX2⟩ := hrel
              clear a0 a1 a2 a3
              have x0 : wr.cell? ⟨wo.heap.size, 0, none⟩ = some (.int .u8 (vk : Int)) := hX2.c0
              have x3 : wr.cell? ⟨wo.heap.size, 3, none⟩ = some (.slice vc vl.length vcap) := hX2.c3
              by_cases hjl : j < vl.length
              · obtain ⟨b2, o2, rfl, hb2, hcell2⟩ := (HNT.out _ (.inr hP2.below)).at' j hjl
                have hle := tn_le m false f vl j hj
                have HS := Lib.hid (tn_step m false f vl j hjl)
                have HP2 := Lib.hid hP2
                have HX2 := Lib.hid hX2
                have hj0 : (0 : Int) ≤ (j : Int) := by omega
                have hj1 : (j : Int) < (vl.length : Int) := by omega
                generalize tn m false f (vl.take j) = X at *
                obtain ⟨g, cn⟩ := X
                simp only at hle HP2 HS
                have HTN := Lib.hid (turn_any A2 c2 HP2.out.bls (by omega) HP2.out.map.row.lt vl[j] false)
                generalize vl[j] = x at *
                clear hP2 hX2
                go_wp2_with fail
                refine HTN.out.mono ?_
                rintro e w5 ⟨A3, c3, rfl, hB3, hb3⟩
                have HP3 := Lib.hid (HP2.out.turn hb3 hB3)
                have HX3 := Lib.hid (HX2.out.keep hb3)
                unfold tnp at HS
                simp only at HS
                clear hB3 hb3
                cases htd : trd m false g x with
                | true =>
                  rw [htd] at HS
                  go_wp2
                  exact ⟨⟨j + 1, A3, c3, by omega, by go_num, by rw [HS.out]; go_num, rfl, by rw [HS.out]; exact HP3.out, HX3.out⟩, by simp [intOf]; omega⟩
                | false =>
                  rw [htd] at HS
                  go_wp2
                  exact ⟨⟨j + 1, A3, c3, by omega, by go_num, by rw [HS.out]; rfl, rfl, by rw [HS.out]; exact HP3.out, HX3.out⟩, by simp [intOf]; omega⟩
              · obtain rfl : j = vl.length := by omega
                rw [List.take_length] at hP2 ⊢
                have HP2 := Lib.hid hP2
                have hle := tn_le m false f vl vl.length (Nat.le_refl _)
                rw [List.take_length] at hle
                have HPT := Lib.hid (drop_any HP2.out.map vc vcap vl (fun w' hc => HNT.out w' (.inr (HP2.out.below.trans (hc.below HP2.out.size HP2.out.bq)))))
                generalize tn m false f vl = X at *
                obtain ⟨g, cn⟩ := X
                simp only at hle HP2 HPT
                clear hP2 hX2
                go_wp2_with fail
                refine HPT.out.mono ?_
                rintro e w5 ⟨rfl, hM5, hC5⟩
                have HPE := Lib.hid (HP2.out.chg hC5 hM5)
                clear hM5 hC5
                go_wp2_with fail
                refine (lawSame_any HPE.out.map A2 c2 HPE.out.bls).mono ?_
                rintro e wE ⟨rfl, hbE⟩
                have HPF := Lib.hid (HPE.out.keep hbE)
                clear hbE
                go_wp2
                exact ⟨⟨i + 1, g, A2, c2, by omega, by go_num, rfl, HPF.out⟩, by simp [intOf]; omega⟩
          · have hk0 : ((vk : Int) % 4 == 0) = false := by simp; omega
            have hk1 : ((vk : Int) % 4 == 1) = false := by simp; omega
            by_cases h2 : vk % 4 = 2
            · have hk2 : ((vk : Int) % 4 == 2) = true := by simp; omega
              clear h0 h1
              have HRG0 := Lib.hid (range_any HPA.out.map (HT.out.below HPA.out.below htl) va vb hab.1 hab.2 hbb.1 hbb.2)
              by_cases hin : 1 ≤ vb ∧ vb ≤ (m : Int) ∧ 0 ≤ va ∧ va ≤ (m : Int) - vb
              · obtain ⟨s, rfl⟩ := Int.eq_ofNat_of_zero_le hin.2.2.1
                obtain ⟨t, rfl⟩ := Int.eq_ofNat_of_zero_le (show 0 ≤ vb by omega)
                obtain ⟨g1, g2, g3, g4⟩ := hin
                go_wp2_with fail
                generalize (wo.alloc (.cells #[.int .u8 (vk : Int), .int .i64 (s : Int), .int .i64 (t : Int), .slice vc vl.length vcap] 31)) = wb at *
                clear a0 a1 a2 a3
                go_loopw [15, 16] (fun my ix w2 => ∃ (j : Nat) (ok : Bool), j ≤ t ∧ ix = .int .i64 (j : Int) ∧ my = .bool ok ∧ (ok = true → ∀ d, d < j → f (s + d) = false) ∧ (ok = false → ∃ d, d < t ∧ f (s + d) = true) ∧ w2 = wb) (fun _ ix _ => t - (intOf ix).toNat)
                case atStart => exact ⟨0, true, Nat.zero_le _, rfl, rfl, (fun _ d h => by omega), (fun h => by cases h), rfl⟩
                case round =>
                  obtain ⟨j, ok, hj, rfl, rfl, hyes, hno, hww⟩ := hrel
                  subst hww
                  obtain ⟨wb, hwb⟩ : ∃ wb, wb = wr := ⟨_, rfl⟩
                  subst hwb
                  have HY := Lib.hid hyes
                  have HNO := Lib.hid hno
                  clear hyes hno
                  cases ok with
                  | false =>
                    have hrf : rgb m f (s : Int) (t : Int) = false := by
                      obtain ⟨d, h1, h2⟩ := HNO.out rfl
                      cases hr : rgb m f (s : Int) (t : Int) with
                      | false => rfl
                      | true =>
                        have := (rgb_iff.1 hr).2 (s + d) (by omega) (by omega)
                        rw [h2] at this
                        cases this
                    have hrg := HRG0.out
                    unfold rgf at hrg
                    rw [hrf, if_neg (by simp)] at hrg
                    have HRG := Lib.hid hrg
                    clear hrg hrf HRG0 HY HNO
                    have x1 : wb.cell? ⟨wo.heap.size, 1, none⟩ = some (.int .i64 (s : Int)) := HX.out.c1
                    have x2 : wb.cell? ⟨wo.heap.size, 2, none⟩ = some (.int .i64 (t : Int)) := HX.out.c2
                    go_wp2_with fail
                    refine HRG.out.mono ?_
                    rintro e w5 ⟨rfl, hM5, hC5⟩
                    have HPE := Lib.hid (HPA.out.chg hC5 hM5)
                    clear hM5 hC5 x1 x2
                    go_wp2_with fail
                    go_loopw [17, 6] (fun ix ws w2 => ix = .int .i64 0 ∧ ws = .slice A1 m c1 ∧ w2 = w5) (fun _ _ _ => 0)
                    case atStart => exact ⟨rfl, rfl, rfl⟩
                    case round =>
                      obtain ⟨rfl, rfl, rfl⟩ := hrel
                      go_wp2_with fail
                      refine (lawSame_any HPE.out.map A1 c1 HPE.out.bls).mono ?_
                      rintro e wE ⟨rfl, hbE⟩
                      have HPF := Lib.hid (HPE.out.keep hbE)
                      clear hbE
                      go_wp2
                      exact ⟨⟨i + 1, f, A1, c1, by omega, by go_num, rfl, HPF.out⟩, by simp [intOf]; omega⟩
                  | true =>
                    by_cases hjt : j < t
                    · have hz : s + j < m := by omega
                      obtain ⟨b2, o2, rfl, hb2, _, hcell2⟩ := HPA.out.bls.at' (s + j) hz
                      have HYY := Lib.hid (HY.out rfl)
                      have hsum : (s : Int) + (j : Int) = ((s + j : Nat) : Int) := by omega
                      have HE1 := Lib.hid (fun (h : f (s + j) = false) d (hd : d < j + 1) => show f (s + d) = false by
                        by_cases e : d = j
                        · subst e; exact h
                        · exact HYY.out d (by omega))
                      have HE2 := Lib.hid (fun (h : f (s + j) = true) => (⟨j, hjt, h⟩ : ∃ d, d < t ∧ f (s + d) = true))
                      have x1 : wb.cell? ⟨wo.heap.size, 1, none⟩ = some (.int .i64 (s : Int)) := HX.out.c1
                      have x2 : wb.cell? ⟨wo.heap.size, 2, none⟩ = some (.int .i64 (t : Int)) := HX.out.c2
                      have hj1 : (j : Int) < (t : Int) := by omega
                      clear HY HNO HYY
                      generalize s + j = z at *
                      have hz0 : (0 : Int) ≤ (z : Int) := by omega
                      have hz1 : (z : Int) < (m : Int) := by omega
                      cases hfz : f z with
                      | true =>
                        rw [hfz] at hcell2
                        have HE3 := Lib.hid (HE2.out hfz)
                        clear hfz HE1 HE2
                        go_wp2
                        exact ⟨⟨j + 1, false, by omega, by go_num, rfl, (fun h => by cases h), (fun _ => HE3.out), by first | rfl | trivial⟩, by simp [intOf]; omega⟩
                      | false =>
                        rw [hfz] at hcell2
                        have HE3 := Lib.hid (HE1.out hfz)
                        clear hfz HE1 HE2
                        go_wp2
                        exact ⟨⟨j + 1, true, by omega, by go_num, rfl, (fun _ => HE3.out), (fun h => by cases h), by first | rfl | trivial⟩, by simp [intOf]; omega⟩
                    · have hjt2 : ¬ (j : Int) < (t : Int) := by omega
                      have hrf : rgb m f (s : Int) (t : Int) = true := rgb_iff.2 ⟨by omega, fun d h1 h2 => by
                        have := HY.out rfl (d - s) (by omega)
                        rwa [show s + (d - s) = d by omega] at this⟩
                      have hrg := HRG0.out
                      unfold rgf at hrg
                      rw [hrf, if_pos rfl, Int.toNat_natCast, show ((s : Int) + (t : Int)).toNat = s + t by omega] at hrg
                      have HRG := Lib.hid hrg
                      clear hrg hrf HRG0 HY HNO
                      have x1 : wb.cell? ⟨wo.heap.size, 1, none⟩ = some (.int .i64 (s : Int)) := HX.out.c1
                      have x2 : wb.cell? ⟨wo.heap.size, 2, none⟩ = some (.int .i64 (t : Int)) := HX.out.c2
                      go_wp2_with fail
                      refine HRG.out.mono ?_
                      rintro e w5 ⟨rfl, hM5, hC5⟩
                      have HP5 := Lib.hid (HPA.out.chg hC5 hM5)
                      have HX5 := Lib.hid (HX.out.chg hC5 hxq)
                      clear hM5 hC5 x1 x2 HRG
                      go_wp2_with fail
                      go_loopw [17, 6] (fun ix ws w2 => ∃ (d : Nat) (A2 : Option Addr) (c2 : Nat), d ≤ t ∧ ix = .int .i64 (d : Int) ∧ ws = .slice A2 m c2 ∧ Pl w (q + 1) q K m (fill f s (s + t)) (fill f s (s + d)) A2 w2 ∧ ActAt w2 wo.heap.size 0 ⟨vk, (s : Int), (t : Int), vl, vc, vcap⟩) (fun ix _ _ => t - (intOf ix).toNat)
                      case atStart => exact ⟨0, A1, c1, Nat.zero_le _, rfl, rfl, by rw [show s + 0 = s from rfl, fill_none]; exact HP5.out, HX5.out⟩
                      case round =>
                        obtain ⟨d, A2, c2, hd, rfl, rfl, hP2, hX2⟩ := hrel
                        have x1 : wr.cell? ⟨wo.heap.size, 1, none⟩ = some (.int .i64 (s : Int)) := hX2.c1
                        have x2 : wr.cell? ⟨wo.heap.size, 2, none⟩ = some (.int .i64 (t : Int)) := hX2.c2
                        have HP2 := Lib.hid hP2
                        have HX2 := Lib.hid hX2
                        clear hP2 hX2
                        by_cases hdt : d < t
                        · have hd1 : (d : Int) < (t : Int) := by omega
                          have hsum : (s : Int) + (d : Int) = ((s + d : Nat) : Int) := by omega
                          have HTN := Lib.hid (turn_any A2 c2 HP2.out.bls (by omega) HP2.out.map.row.lt ((s + d : Nat) : Int) true)
                          have HTE := Lib.hid ((trn_in (n := m) (f := fill f s (s + d)) (show s + d < m by omega) true).trans (fill_step s (s + d) (by omega)))
                          have HAS := Lib.hid (show s + d + 1 = s + (d + 1) by omega)
                          have hzm : s + d < m := by omega
                          generalize s + d = z at *
                          go_wp2_with fail
                          refine HTN.out.mono ?_
                          rintro e w6 ⟨A3, c3, rfl, hB3, hb3⟩
                          rw [HTE.out] at hB3
                          have HP3 := Lib.hid (HP2.out.turn hb3 hB3)
                          have HX3 := Lib.hid (HX2.out.keep hb3)
                          clear hB3 hb3
                          go_wp2
                          exact ⟨⟨d + 1, A3, c3, by omega, by go_num, rfl, by rw [← HAS.out]; exact HP3.out, HX3.out⟩, by simp [intOf]; omega⟩
                        · have hd1 : ¬ (d : Int) < (t : Int) := by omega
                          have hde : d = t := by omega
                          have HPE := Lib.hid (hde ▸ HP2.out : Pl w (q + 1) q K m (fill f s (s + t)) (fill f s (s + t)) A2 wr)
                          clear hde
                          go_wp2_with fail
                          refine (lawSame_any HPE.out.map A2 c2 HPE.out.bls).mono ?_
                          rintro e wE ⟨rfl, hbE⟩
                          have HPF := Lib.hid (HPE.out.keep hbE)
                          clear hbE
                          go_wp2
                          exact ⟨⟨i + 1, _, A2, c2, by omega, by go_num, rfl, HPF.out⟩, by simp [intOf]; omega⟩
              · have hrf : rgb m f va vb = false := by
                  cases hr : rgb m f va vb with
                  | false => rfl
                  | true =>
                    have := (rgb_iff.1 hr).1
                    omega
                have hrg := HRG0.out
                unfold rgf at hrg
                rw [hrf, if_neg (by simp)] at hrg
                have HRG := Lib.hid hrg
                clear hrg hrf HRG0
                have h4 : vb < 1 ∨ (1 ≤ vb ∧ (m : Int) < vb) ∨ (1 ≤ vb ∧ vb ≤ (m : Int) ∧ va < 0) ∨ (1 ≤ vb ∧ vb ≤ (m : Int) ∧ 0 ≤ va ∧ (m : Int) - vb < va) := by omega
                clear hin
                rcases h4 with h4 | ⟨h4, h5⟩ | ⟨h4, h5, h6⟩ | ⟨h4, h5, h6, h7⟩
                all_goals
                  try have h8 : decide (va ≤ (m : Int) - vb) = false := decide_eq_false (by omega)
                  go_wp2_with fail
                  generalize (wo.alloc (.cells #[.int .u8 (vk : Int), .int .i64 va, .int .i64 vb, .slice vc vl.length vcap] 31)) = wb at *
                  clear a0 a1 a2 a3
                  go_loopw [15, 16] (fun my ix w2 => my = .bool false ∧ ix = .int .i64 0 ∧ w2 = wb) (fun _ _ _ => 0)
                  case atStart => exact ⟨rfl, rfl, rfl⟩
                  case round =>
                    obtain ⟨rfl, rfl, hww⟩ := hrel
                    subst hww
                    obtain ⟨wb, hwb⟩ : ∃ wb, wb = wr := ⟨_, rfl⟩
                    subst hwb
                    have x1 : wb.cell? ⟨wo.heap.size, 1, none⟩ = some (.int .i64 va) := HX.out.c1
                    have x2 : wb.cell? ⟨wo.heap.size, 2, none⟩ = some (.int .i64 vb) := HX.out.c2
                    go_wp2_with fail
                    refine HRG.out.mono ?_
                    rintro e w5 ⟨rfl, hM5, hC5⟩
                    have HPE := Lib.hid (HPA.out.chg hC5 hM5)
                    clear hM5 hC5 x1 x2
                    go_wp2_with fail
                    go_loopw [17, 6] (fun ix ws w2 => ix = .int .i64 0 ∧ ws = .slice A1 m c1 ∧ w2 = w5) (fun _ _ _ => 0)
                    case atStart => exact ⟨rfl, rfl, rfl⟩
                    case round =>
                      obtain ⟨rfl, rfl, rfl⟩ := hrel
                      go_wp2_with fail
                      refine (lawSame_any HPE.out.map A1 c1 HPE.out.bls).mono ?_
                      rintro e wE ⟨rfl, hbE⟩
                      have HPF := Lib.hid (HPE.out.keep hbE)
                      clear hbE
                      go_wp2
                      exact ⟨⟨i + 1, f, A1, c1, by omega, by go_num, rfl, HPF.out⟩, by simp [intOf]; omega⟩
            · have hk2 : ((vk : Int) % 4 == 2) = false := by simp; omega
              clear h0 h1 h2
              go_wp2
              generalize (wo.alloc (.cells #[.int .u8 (vk : Int), .int .i64 va, .int .i64 vb, .slice vc vl.length vcap] 31)) = wb at *
              have x1 : wb.cell? ⟨wo.heap.size, 1, none⟩ = some (.int .i64 va) := HX.out.c1
              have x2 : wb.cell? ⟨wo.heap.size, 2, none⟩ = some (.int .i64 vb) := HX.out.c2
              have HN1 := Lib.hid (fun u k => next_any (HPA.out.drewN k).map (HT.out.below (HPA.out.drewN k).below htl) va u hab.2)
              have HN2 := Lib.hid (fun u k => refNext_any A1 c1 (HPA.out.drewN k).bls (by omega) va u)
              clear a0 a1 a2 a3
              obtain ⟨u, hu⟩ : ∃ u, (vb.tmod 2 == 0) = u := ⟨_, rfl⟩
              have hwt : IntKind.wrap .i64 (vb.tmod 2) = vb.tmod 2 := by
                have h1 := Int.tmod_lt_of_pos vb (show (0 : Int) < 2 by decide)
                have h2 : -2 < vb.tmod 2 := Int.lt_tmod_of_pos vb (show (0 : Int) < 2 by decide)
                rw [IntKind.wrap_i64]
                omega
              go_quiet ((first
                | (go_at_call 15; exact Calls.quiet_of_same ((HN1.out _ _).mono (fun _ _ h => ⟨h.1, h.2.symm⟩)))
                | (go_at_call 16; exact Calls.quiet_of_same ((HN2.out _ _).mono (fun _ _ h => ⟨h.1, h.2.symm⟩)))))
              have HPE := Lib.hid (HPA.out.drewN nq)
              clear hu hwt x1 x2
              generalize wb.drewN nq = wz at *
              go_wp2_with fail
              refine (lawSame_any HPE.out.map A1 c1 HPE.out.bls).mono ?_
              rintro e wE ⟨rfl, hbE⟩
              have HPF := Lib.hid (HPE.out.keep hbE)
              clear hbE
              go_wp2
              exact ⟨⟨i + 1, f, A1, c1, by omega, by go_num, rfl, HPF.out⟩, by simp [intOf]; omega⟩
      · have HPE := Lib.hid hP
        clear hP
        go_wp2
        go_ret
        exact ⟨rfl, HPE.out.below⟩
theorem plays_law (n : Int) (A : Option Addr) (c k : Nat) (F : Nat → ActV) (hF : Acts w A k F) (hT : Tab w) :
    Calls Tryd.prog 3 #[.int .i64 n, .slice A k c] w fun r w' => r = .returned (.bool true) ∧ Below w.heap.size w w' := by
  by_cases hn : 300 < n
  · exact plays_long n A c k F hF hT hn
  · exact plays_core n A c k F hF hT hn
end
end Bm
end Go.Proofs.YthfnbboambpdgaaDoor
