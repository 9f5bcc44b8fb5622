/- GeometryApart's walk. -/
import Derived.Test.YtoagfpjaaiodgaaGeoApart
namespace Go.Proofs.Ytoagfpjaaiodgaa
open Go.RowKit Go.MapKept
namespace Geo

theorem st_made (w w3 : World) (b L : Nat) (n m s : Int) (hx : Box w3 b n m s) (hb : Below w.heap.size w w3) :
    St w w.heap.size b (w3.heap.size + 1) w3.heap.size L n m s (fun _ => 0) ((w3.alloc (.cells (madeCells #[.int .i64 0] L) 3)).alloc (.cells #[.slice (some ⟨w3.heap.size, 0, none⟩) L L] 37)) := by
  have h1 : Below w3.heap.size w3 (w3.alloc (.cells (madeCells #[.int .i64 0] L) 3)) := (Below.refl _ _).alloc (Nat.le_refl _) _
  have h2 : Below w3.heap.size w3 ((w3.alloc (.cells (madeCells #[.int .i64 0] L) 3)).alloc (.cells #[.slice (some ⟨w3.heap.size, 0, none⟩) L L] 37)) := h1.alloc (by simp) _
  have hlt := hx.lt
  refine ⟨hx.keep h2, by simp, ?_, ?_, by omega, by omega, hb.trans (h2.mono hb.size), hb.size⟩
  · simp
  · exact ((World.rowIs_made w3 (.int .i64 0) L 3).alloc _).congr (fun j _ => rfl)

set_option maxHeartbeats 4000000 in
set_option maxRecDepth 100000 in
theorem apart_walk (w : World) (n m k : Nat) (p : Plan) (s : Int) (hp : p.Is p.B p.M s)
    (hs : ∀ w, Calls Try.prog 21 #[.int .u8 (n : Int), .int .u8 (m : Int), .int .u8 (k : Int)] w fun r w' => r = .returned (.agg #[.int .i64 (p.B : Int), .int .i64 (p.M : Int), .int .i64 s]) ∧ Below w.heap.size w w') :
    Calls Try.prog 4 #[.int .u8 (n : Int), .int .u8 (m : Int), .int .u8 (k : Int)] w fun r w' => r = .returned (.bool true) ∧ Below w.heap.size w w' := by
  have HL := Lib.hid (lives_any w)
  have HS := Lib.hid hs
  have HP := Lib.hid hp
  have CW : Hid (∀ w, Calls Try.prog 12 #[.agg #[.int .i64 (p.B : Int), .int .i64 (p.M : Int), .int .i64 s]] w fun r w' => r = .returned (.int .i64 (p.L : Int)) ∧ Below w.heap.size w w') := Lib.hid (fun w => by
    have := words_any w p.B p.M s; rwa [iff_yes hp.ok, hp.eF] at this)
  have C13 : Hid (∀ w, Calls Try.prog 13 #[.agg #[.int .i64 (p.B : Int), .int .i64 (p.M : Int), .int .i64 s]] w fun r w' => r = .returned (.int .i64 0) ∧ Below w.heap.size w w') := Lib.hid (fun w => by
    have := super_any w p.B p.M s; rwa [plc_yes hp.ok (by decide) (by decide)] at this)
  have C14 : Hid (∀ w, Calls Try.prog 14 #[.agg #[.int .i64 (p.B : Int), .int .i64 (p.M : Int), .int .i64 s]] w fun r w' => r = .returned (.int .i64 8) ∧ Below w.heap.size w w') := Lib.hid (fun w => by
    have := record_any w p.B p.M s; rwa [plc_yes hp.ok (by decide) (by decide)] at this)
  have C15 : Hid (∀ w (i a : Nat), i < p.M → a = 16 + 8 * i → Calls Try.prog 15 #[.agg #[.int .i64 (p.B : Int), .int .i64 (p.M : Int), .int .i64 s], .int .i64 (i : Int)] w fun r w' => r = .returned (.int .i64 (a : Int)) ∧ Below w.heap.size w w') := Lib.hid (fun w i a hi ha => by
    have := inode_any w p.B p.M s i
    rw [plc_yes hp.ok (by omega) (by omega)] at this
    have e : (16 + (i : Int) * 8) = (a : Int) := by omega
    rwa [e] at this)
  have C16 : Hid (∀ w (i a : Nat), i < p.B → a = p.sl + i → Calls Try.prog 16 #[.agg #[.int .i64 (p.B : Int), .int .i64 (p.M : Int), .int .i64 s], .int .i64 (i : Int)] w fun r w' => r = .returned (.int .i64 (a : Int)) ∧ Below w.heap.size w w') := Lib.hid (fun w i a hi ha => by
    have := slot_any w p.B p.M s i
    rw [plc_yes hp.ok (by omega) (by omega)] at this
    have e : (16 + (p.M : Int) * 8 + (i : Int) * 1) = (a : Int) := by have := hp.eS; omega
    rwa [e] at this)
  have C17 : Hid (∀ w (i a : Nat), i < p.B → a = p.bk + i * p.q → Calls Try.prog 17 #[.agg #[.int .i64 (p.B : Int), .int .i64 (p.M : Int), .int .i64 s], .int .i64 (i : Int)] w fun r w' => r = .returned (.int .i64 (a : Int)) ∧ Below w.heap.size w w') := Lib.hid (fun w i a hi ha => by
    have hsb := (may_num hp.ok).1.2.2.bounds
    have hB := hp.B2
    have := block_any w p.B p.M s i (by unfold I64; omega) (by unfold I64; omega)
    rw [plc_yes hp.ok (by omega) (by omega)] at this
    have e : (bkAt p.B p.M + (i : Int) * (s / 8)) = (a : Int) := by rw [hp.eK, hp.eQ, ha]; push_cast; rfl
    rwa [e] at this)
  have C18 : Hid (∀ w, Calls Try.prog 18 #[.agg #[.int .i64 (p.B : Int), .int .i64 (p.M : Int), .int .i64 s]] w fun r w' => r = .returned (.int .i64 (p.q : Int)) ∧ Below w.heap.size w w') := Lib.hid (fun w => by
    have := each_any w p.B p.M s; rwa [iff_yes hp.ok, hp.eQ] at this)
  have C10 : Hid (∀ w, Calls Try.prog 10 #[.agg #[.int .i64 (p.B : Int), .int .i64 (p.M : Int), .int .i64 s]] w fun r w' => r = .returned (.tuple #[.int .i64 (p.bm : Int), .int .i64 (p.wn : Int)]) ∧ Below w.heap.size w w') := Lib.hid (fun w => by
    have := bitmap_any w p.B p.M s; rwa [iff_yes hp.ok, iff_yes hp.ok, hp.eB, hp.eW] at this)
  have hLb : p.L ≤ 100000 := by
    have h1 := hp.eL
    have h2 : p.B * p.q ≤ 256 * 32 := Nat.mul_le_mul hp.B2 hp.q2
    have h3 := hp.bk2
    have h4 := hp.bm2
    have h5 := hp.eS
    have h6 := hp.M2
    have h7 := hp.B2
    have h8 := hp.eW
    omega
  have hM1 := hp.M1
  have hM2 := hp.M2
  have hB1 := hp.B1
  have hB2 := hp.B2
  have hq1 := hp.q1
  have hq2 := hp.q2
  clear hs hp
  go_enter Try.func4, Try.ntmps4
  go_wp2_with fail
  refine HL.out.mono ?_
  rintro e w1 ⟨rfl, hb⟩
  have HB1 := Lib.hid hb
  clear hb HL
  go_wp2_with fail
  refine (HS.out _).mono ?_
  rintro e w2 ⟨rfl, hb⟩
  have h3 := HB1.out.trans (hb.mono HB1.out.size)
  have HB2 := Lib.hid (h3.alloc h3.size (.cells #[.int .i64 (p.B : Int), .int .i64 (p.M : Int), .int .i64 s] 24))
  have HX := Lib.hid (boxed w2 p.B p.M s 24)
  clear hb h3 HB1 HS
  go_wp2_with fail
  refine (CW.out _).mono ?_
  rintro e w3 ⟨rfl, hb⟩
  have HT := Lib.hid (st_made w w3 w2.heap.size p.L p.B p.M s (HX.out.keep hb) (HB2.out.trans (hb.mono HB2.out.size)))
  have HX3 := Lib.hid (HX.out.keep hb)
  clear hb HX HB2 CW
  generalize w2.heap.size = b at *
  have hmk := run_make_row' (P := Try.prog) 37 3 _ 8 Try.underlying37 int_info rfl .i64 .i64 p.L (by omega) (by omega) w3
  have hc0 := HX3.out.c0
  have hc1 := HX3.out.c1
  have hc2 := HX3.out.c2
  have hblt := HX3.out.lt
  have hk0 := HT.out.box.c0
  have hk1 := HT.out.box.c1
  have hk2 := HT.out.box.c2
  have h17 : 17 ≤ p.L := by have := HP.out.eL; have := HP.out.bk1; have := HP.out.bm1; have := HP.out.eS; omega
  go_wp2_with fail
  clear hmk hc0 hc1 hc2 hk0 hk1 hk2 hblt HX3
  generalize ((w3.alloc (.cells (madeCells #[.int .i64 0] p.L) 3)).alloc (.cells #[.slice (some ⟨w3.heap.size, 0, none⟩) p.L p.L] 37)) = W at *
  generalize w3.heap.size + 1 = c at *
  generalize w3.heap.size = A at *
  have M : Hid (∀ w' cnt (a kk : Nat), St w w.heap.size b c A p.L p.B p.M s cnt w' → a + kk ≤ p.L → (a % 8 = 0 ∨ kk = 1) → (∀ j, cnt j ≤ 5) → Calls Try.prog 22 #[.int .i64 (a : Int), .int .i64 (kk : Int), .pointer (some ⟨c, 0, none⟩)] w' fun r w'' => r = .returned (.bool true) ∧ St w w.heap.size b c A p.L p.B p.M s (add cnt a (a + kk)) w'') := Lib.hid (fun w' cnt a kk h1 h2 h3 h4 => (mark_any w w' w.heap.size b c A p.L p.B p.M s cnt h1 (by omega) a kk h2 h3 h4).mono fun r w'' ⟨h1, h2, _⟩ => ⟨h1, h2⟩)
  refine (C13.out _).mono ?_
  rintro e w4 ⟨rfl, hb⟩
  have T4 := Lib.hid (HT.out.keep' hb)
  clear hb HT C13
  go_wp2_with fail
  refine (M.out _ _ 0 8 T4.out (by omega) (.inl rfl) (fun _ => by decide)).mono ?_
  rintro e w5 ⟨rfl, hst⟩
  have T5 := Lib.hid hst
  clear hst T4
  have hk0 := T5.out.box.c0
  have hk1 := T5.out.box.c1
  have hk2 := T5.out.box.c2
  go_wp2_with fail
  refine (C14.out _).mono ?_
  rintro e w6 ⟨rfl, hb⟩
  have T6 := Lib.hid (T5.out.keep' hb)
  clear hb T5 C14 hk0 hk1 hk2
  go_wp2_with fail
  refine (M.out _ _ 8 8 T6.out (by omega) (.inl rfl) (fun j => by unfold add; dsimp only; split <;> omega)).mono ?_
  rintro e w7 ⟨rfl, hst⟩
  have T7 := Lib.hid (hst.congr (fun j _ => c1_start j))
  clear hst T6
  have hk0 := T7.out.box.c0
  have hk1 := T7.out.box.c1
  have hk2 := T7.out.box.c2
  go_wp2
  clear hk0 hk1 hk2
  go_loopw [10, 40] (fun o x wr => ∃ i : Nat, i ≤ p.M ∧ x = .int .i64 (i : Int) ∧ o = .bool true ∧ St w w.heap.size b c A p.L p.B p.M s (c1 i) wr) (fun _ x _ => p.M - (intOf x).toNat)
  case atStart => exact ⟨0, Nat.zero_le _, rfl, rfl, T7.out⟩
  case round =>
    obtain ⟨i, hi, rfl, rfl, hst⟩ := hrel
    have T := Lib.hid hst
    clear hst T7
    by_cases hlt : i < p.M
    · obtain ⟨a, ha⟩ : ∃ a, a = 16 + 8 * i := ⟨_, rfl⟩
      have HI := Lib.hid (fun w => C15.out w i a hlt ha)
      have ha2 : a + 8 ≤ p.L := by have := HP.out.eL; have := HP.out.bk1; have := HP.out.bm1; have := HP.out.eS; omega
      have ha3 : a % 8 = 0 := by omega
      have HA3 := Lib.hid ha3
      have HE := Lib.hid (c1_step i)
      rw [← ha] at HE
      clear ha ha3
      have hk0 := T.out.box.c0
      have hk1 := T.out.box.c1
      have hk2 := T.out.box.c2
      go_wp2_with fail
      refine (HI.out _).mono ?_
      rintro e w8 ⟨rfl, hb⟩
      have T8 := Lib.hid (T.out.keep' hb)
      clear hb hk0 hk1 hk2
      go_wp2_with fail
      refine (M.out _ _ a 8 T8.out ha2 (.inl HA3.out) (c1_le i)).mono ?_
      rintro e w9 ⟨rfl, hst⟩
      have T9 := Lib.hid (hst.congr (fun j _ => HE.out j))
      clear hst
      go_wp2
      go_roundw
      case rel => exact ⟨i + 1, by omega, by go_num, rfl, T9.out⟩
      case measure => simp [intOf]; omega
    · obtain rfl : i = p.M := by omega
      have T1 := Lib.hid (T.out.congr (fun j _ => c2_start p HP.out.eS j))
      clear T
      have hk0 := T1.out.box.c0
      have hk1 := T1.out.box.c1
      have hk2 := T1.out.box.c2
      go_wp2
      clear hk0 hk1 hk2
      go_loopw [10, 54] (fun o x wr => ∃ i : Nat, i ≤ p.B ∧ x = .int .i64 (i : Int) ∧ o = .bool true ∧ St w w.heap.size b c A p.L p.B p.M s (c2 p i) wr) (fun _ x _ => p.B - (intOf x).toNat)
      case atStart => exact ⟨0, Nat.zero_le _, rfl, rfl, T1.out⟩
      case round =>
        obtain ⟨i, hi, rfl, rfl, hst⟩ := hrel
        have T := Lib.hid hst
        clear hst T1
        by_cases hlt : i < p.B
        · obtain ⟨a, ha⟩ : ∃ a, a = p.sl + i := ⟨_, rfl⟩
          obtain ⟨d, hd⟩ : ∃ d, d = p.bk + i * p.q := ⟨_, rfl⟩
          have HI := Lib.hid (fun w => C16.out w i a hlt ha)
          have HD := Lib.hid (fun w => C17.out w i d hlt hd)
          have ha2 : a + 1 ≤ p.L := by have := HP.out.eL; have := HP.out.bk1; have := HP.out.bm1; omega
          have hd2 : d + p.q ≤ p.L := by
            have h1 := HP.out.eL
            have h2 : (i + 1) * p.q ≤ p.B * p.q := Nat.mul_le_mul_right _ hlt
            rw [Nat.succ_mul] at h2
            omega
          have HD8 := Lib.hid (show d % 8 = 0 by
            have h1 := HP.out.bk8
            have h2 := HP.out.q8
            have h3 : i * p.q % 8 = 0 := by rw [Nat.mul_mod, h2]; simp
            omega)
          have HE := Lib.hid (c2_step p i)
          rw [← ha, ← hd] at HE
          have M1 : Hid (∀ w', St w w.heap.size b c A p.L p.B p.M s (c2 p i) w' → Calls Try.prog 22 #[.int .i64 (a : Int), .int .i64 1, .pointer (some ⟨c, 0, none⟩)] w' fun r w'' => r = .returned (.bool true) ∧ St w w.heap.size b c A p.L p.B p.M s (add (c2 p i) a (a + 1)) w'') := Lib.hid (fun w' h => M.out _ _ a 1 h ha2 (.inr rfl) (fun j => Nat.le_trans (c2_le p i j) (by decide)))
          have M2 : Hid (∀ w', St w w.heap.size b c A p.L p.B p.M s (add (c2 p i) a (a + 1)) w' → Calls Try.prog 22 #[.int .i64 (d : Int), .int .i64 (p.q : Int), .pointer (some ⟨c, 0, none⟩)] w' fun r w'' => r = .returned (.bool true) ∧ St w w.heap.size b c A p.L p.B p.M s (add (add (c2 p i) a (a + 1)) d (d + p.q)) w'') := Lib.hid (fun w' h => M.out _ _ d p.q h hd2 (.inl HD8.out) (add_le (c2_le p i)))
          clear ha hd
          have hk0 := T.out.box.c0
          have hk1 := T.out.box.c1
          have hk2 := T.out.box.c2
          go_wp2
          go_region_held3 (fun W' => W'.cell? ⟨b, 0, none⟩ = some (.int .i64 (p.B : Int)) ∧ W'.cell? ⟨b, 1, none⟩ = some (.int .i64 (p.M : Int)) ∧ W'.cell? ⟨b, 2, none⟩ = some (.int .i64 s)) (go_keep)
            (first
            | (go_at_call 16
               with_reducible refine (HI.out _).mono ?_
               rintro e w8 ⟨rfl, hb⟩
               have T8 := Lib.hid (T.out.drew.keep' hb)
               have h80 := T8.out.box.c0
               have h81 := T8.out.box.c1
               have h82 := T8.out.box.c2
               clear hb)
            | (go_at_call 17
               with_reducible refine (HD.out _).mono ?_
               rintro e w10 ⟨rfl, hb⟩
               have T10 := Lib.hid (T9.out.keep' hb)
               have h100 := T10.out.box.c0
               have h101 := T10.out.box.c1
               have h102 := T10.out.box.c2
               clear hb)
            | (go_at_call 18
               with_reducible refine (C18.out _).mono ?_
               rintro e w11 ⟨rfl, hb⟩
               have T11 := Lib.hid (T10.out.keep' hb)
               have h110 := T11.out.box.c0
               have h111 := T11.out.box.c1
               have h112 := T11.out.box.c2
               clear hb)
            | (go_at_call 22
               with_reducible refine (M1.out _ T8.out).mono ?_
               rintro e w9 ⟨rfl, hst⟩
               have T9 := Lib.hid hst
               have h90 := T9.out.box.c0
               have h91 := T9.out.box.c1
               have h92 := T9.out.box.c2
               clear hst)
            | (go_at_call 22
               with_reducible refine (M2.out _ T11.out).mono ?_
               rintro e w12 ⟨rfl, hst⟩
               have T12 := Lib.hid (hst.congr (fun j _ => HE.out j))
               have h120 := T12.out.box.c0
               have h121 := T12.out.box.c1
               have h122 := T12.out.box.c2
               clear hst))
          go_wp2
          go_roundw
          case rel => exact ⟨i + 1, by omega, by go_num, rfl, T12.out⟩
          case measure => simp [intOf]; omega
        · obtain rfl : i = p.B := by omega
          have hk0 := T.out.box.c0
          have hk1 := T.out.box.c1
          have hk2 := T.out.box.c2
          go_wp2_with fail
          refine (C10.out _).mono ?_
          rintro e w8 ⟨rfl, hb⟩
          have T8 := Lib.hid (T.out.keep' hb)
          clear hb hk0 hk1 hk2 T
          have hbm8 : ((p.bm : Int) % 8 != 0) = false := by have := HP.out.bm8; simp; omega
          have hbmL : p.bm + p.wn ≤ p.L := by have := HP.out.eL; have := HP.out.bk1; omega
          go_wp2_with fail
          refine (M.out _ _ p.bm p.wn T8.out hbmL (.inl HP.out.bm8) (fun j => Nat.le_trans (c2_le p _ j) (by decide))).mono ?_
          rintro e w9 ⟨rfl, hst⟩
          have T9 := Lib.hid hst
          clear hst T8 hbm8
          have hcc := T9.out.cc
          go_wp2
          clear hcc
          go_loop [15, 96] (fun z x => ∃ i : Nat, i ≤ p.L ∧ x = .int .i64 (i : Int) ∧ z = .int .i64 ((zr p i : Nat) : Int)) (fun _ x => p.L - (intOf x).toNat)
          case atStart => exact ⟨0, Nat.zero_le _, rfl, by unfold zr; simp⟩
          case round =>
            obtain ⟨i, hi, rfl, rfl⟩ := hrel
            have hz := zr_lt HP.out i
            by_cases hlt : i < p.L
            · have hrc := T9.out.row.cell hlt
              rcases c3_one HP.out i hlt with ⟨h1, h2⟩ | ⟨h1, h2⟩
              · rw [h1] at hrc
                have H2 := Lib.hid h2
                clear h1 h2
                generalize zr p i = y at *
                go_wp2
                go_round
                case rel => exact ⟨i + 1, by omega, by go_num, by rw [H2.out]; go_num⟩
                case measure => simp [intOf]; omega
              · rw [h1] at hrc
                have H2 := Lib.hid h2
                clear h1 h2
                generalize zr p i = y at *
                go_wp2
                go_round
                case rel => exact ⟨i + 1, by omega, by go_num, by rw [H2.out]⟩
                case measure => simp [intOf]; omega
            · generalize zr p i = y at *
              have hd : decide ((y : Int) < 16) = true := decide_eq_true (by omega)
              have HD := Lib.hid hd
              clear hd
              go_wp2
              go_ret
              exact ⟨congrArg (fun b => Ending.returned (.bool b)) HD.out, T9.out.below⟩
end Geo
end Go.Proofs.Ytoagfpjaaiodgaa
