/- InodeDecodes, walked. -/
import Derived.Test.YtoigfhijlnajoaaInoLives
namespace Go.Proofs.Ytoigfhijlnajoaa
open Go.RowKit Go.MapKept
namespace Ino
open Lin
section
variable {w : World}

set_option maxHeartbeats 2000000 in
set_option maxRecDepth 100000 in
theorem decodes_any (A : Option Addr) (c : Nat) (l : List Nat) (h : Pack.Wds w A l) :
    Calls Try.prog 4 #[.slice A l.length c] w fun r w' => r = .returned (.bool true) ∧ Below w.heap.size w w' := by
  have hlen := h.len
  have H := Lib.hid h
  have HL := Lib.hid lives_any
  clear h
  by_cases h20 : l.length ≤ 20
  · go_enter Try.func4, Try.ntmps4
    go_wp2_with fail
    refine (HL.out _).mono ?_
    rintro e w0 ⟨rfl, hb⟩
    have HB0 := Lib.hid hb
    have H0 := Lib.hid (H.out.keep hb)
    clear hb H
    obtain ⟨k, hd, s, er, is, hdec, href, hcase⟩ : ∃ (k hd s er : Int) (is : Bool), (∀ W, Pack.Wds W A l → Calls Try.prog 13 #[.slice A l.length c] W fun r w' => r = .returned (.tuple #[.agg #[.int .i64 k, .int .i64 hd, .int .i64 s], .int .i64 er]) ∧ Below W.heap.size W w') ∧ (∀ W, Pack.Wds W A l → Calls Try.prog 14 #[.slice A l.length c] W fun r w' => r = .returned (.tuple #[.agg #[.int .i64 k, .int .i64 hd, .int .i64 s], .bool is]) ∧ Below W.heap.size W w') ∧ (er = 0 ∧ is = true ∨ er = 2 ∧ is = false) := by
      cases ho : dec l with
      | none =>
        refine ⟨0, -1, 0, 2, false, fun W hW => ?_, fun W hW => ?_, .inr ⟨rfl, rfl⟩⟩
        · have hd := decode_any A c l hW
          rw [ho] at hd
          exact hd
        · have hd := refDecode_any A c l hW
          rw [ho] at hd
          exact hd
      | some q =>
        obtain ⟨k, p, s⟩ := q
        refine ⟨k, (p : Int) - 1, s, 0, true, fun W hW => ?_, fun W hW => ?_, .inl ⟨rfl, rfl⟩⟩
        · have hd := decode_any A c l hW
          rw [ho] at hd
          exact hd
        · have hd := refDecode_any A c l hW
          rw [ho] at hd
          exact hd
    have HD := Lib.hid (hdec w0 H0.out)
    have HR := Lib.hid href
    have HRF := Lib.hid (fun w => ref_any w k hd s)
    clear hdec href
    rcases hcase with ⟨rfl, rfl⟩ | ⟨rfl, rfl⟩
    · go_wp2_with fail
      refine HD.out.mono ?_
      rintro e w1 ⟨rfl, hb⟩
      have hb0 := hb.alloc hb.size (.cells #[.int .i64 k, .int .i64 hd, .int .i64 s] 24)
      have HB1 := Lib.hid (HB0.out.trans (hb0.mono HB0.out.size))
      have HX1 := Lib.hid (boxed w1 k hd s 24)
      have H1 := Lib.hid (H0.out.keep hb0)
      clear hb hb0 HB0 H0 HD
      go_wp2_with fail
      refine (HR.out _ H1.out).mono ?_
      rintro e w2 ⟨rfl, hb⟩
      have hb0 := hb.alloc hb.size (.cells #[.int .i64 k, .int .i64 hd, .int .i64 s] 33)
      have HB2 := Lib.hid (HB1.out.trans (hb0.mono HB1.out.size))
      have HX2 := Lib.hid (HX1.out.keep hb0)
      have HY2 := Lib.hid (boxed w2 k hd s 33)
      clear hb hb0 HB1 HX1 H1 HR
      go_wp2
      generalize w2.alloc (.cells #[.int .i64 k, .int .i64 hd, .int .i64 s] 33) = w3 at *
      generalize w1.heap.size = k1 at *
      generalize w2.heap.size = k2 at *
      have hc0 := HX2.out.c0
      have hc1 := HX2.out.c1
      have hc2 := HX2.out.c2
      have hd0 := HY2.out.c0
      have hd1 := HY2.out.c1
      have hd2 := HY2.out.c2
      refine wp_region_held_drew (S := (fun W' => (W'.cell? ⟨k1, 0, none⟩ = some (.int .i64 k) ∧ W'.cell? ⟨k1, 1, none⟩ = some (.int .i64 hd) ∧ W'.cell? ⟨k1, 2, none⟩ = some (.int .i64 s)) ∧ (W'.cell? ⟨k2, 0, none⟩ = some (.int .i64 k) ∧ W'.cell? ⟨k2, 1, none⟩ = some (.int .i64 hd) ∧ W'.cell? ⟨k2, 2, none⟩ = some (.int .i64 s)))) (by kernel_rfl) ?_ (fun hHeld => ?_)
      · exact ⟨⟨hc0, hc1, hc2⟩, ⟨hd0, hd1, hd2⟩⟩
      refine take_yes 0 25 (.agg #[.int .i64 k, .int .i64 hd, .int .i64 s]) rfl rfl (by kernel_rfl) (by kernel_rfl) (by kernel_rfl) (fun _ _ _ h => h) rfl ?_ (by assumption) ?_
      · intro w hSw
        try dsimp only at hSw
        go_simp
      simp only [Act.put, List.setIfInBounds_toArray, List.set_cons_zero, List.set_cons_succ]
      refine take_yes 2 27 (.agg #[.int .i64 k, .int .i64 hd, .int .i64 s]) rfl rfl (by kernel_rfl) (by kernel_rfl) (by kernel_rfl) (fun _ _ _ h => h) rfl ?_ (by assumption) ?_
      · intro w hSw
        try dsimp only at hSw
        go_simp
      simp only [Act.put, List.setIfInBounds_toArray, List.set_cons_zero, List.set_cons_succ]
      refine wpAnyH_ready (rs := [1]) (by kernel_rfl) (by simp) ?_
      refine AllReadyH.cons rfl (fun K hK => ?_) AllReadyH.nil
      go_simp
      go_at_call 10
      with_reducible refine (HRF.out _).mono ?_
      rintro e w4 ⟨rfl, hb⟩
      have HX4 := Lib.hid (HX2.out.drew.keep hb)
      have HY4 := Lib.hid (HY2.out.drew.keep hb)
      have HB4 := Lib.hid (HB2.out.drew.trans (hb.mono HB2.out.drew.size))
      clear hb hc0 hc1 hc2 hd0 hd1 hd2 hHeld
      go_wp2_with fail
      refine hK.out _ _ ⟨⟨HX4.out.c0, HX4.out.c1, HX4.out.c2⟩, ⟨HY4.out.c0, HY4.out.c1, HY4.out.c2⟩⟩ (fun hHeld => ?_)
      clear hK K
      refine take_yes 3 28 (.bool true) rfl rfl (by kernel_rfl) (by kernel_rfl) (by kernel_rfl) (fun _ _ _ h => h) rfl ?_ (by assumption) ?_
      · intro w hSw
        try dsimp only at hSw
        go_simp
      simp only [Act.put, List.setIfInBounds_toArray, List.set_cons_zero, List.set_cons_succ]
      refine take_yes 4 29 (.bool true) rfl rfl (by kernel_rfl) (by kernel_rfl) (by kernel_rfl) (fun _ _ _ h => h) rfl ?_ (by assumption) ?_
      · intro w hSw
        try dsimp only at hSw
        go_simp
      simp only [Act.put, List.setIfInBounds_toArray, List.set_cons_zero, List.set_cons_succ]
      refine take_yes 5 30 (.int .i64 0) rfl rfl (by kernel_rfl) (by kernel_rfl) (by kernel_rfl) (fun _ _ _ h => h) rfl ?_ (by assumption) ?_
      · intro w hSw
        try dsimp only at hSw
        go_simp
      simp only [Act.put, List.setIfInBounds_toArray, List.set_cons_zero, List.set_cons_succ]
      refine take_yes 6 31 (.bool true) rfl rfl (by kernel_rfl) (by kernel_rfl) (by kernel_rfl) (fun _ _ _ h => h) rfl ?_ (by assumption) ?_
      · intro w hSw
        try dsimp only at hSw
        go_simp
      simp only [Act.put, List.setIfInBounds_toArray, List.set_cons_zero, List.set_cons_succ]
      refine take_yes 7 32 (.bool true) rfl rfl (by kernel_rfl) (by kernel_rfl) (by kernel_rfl) (fun _ _ _ h => h) rfl ?_ (by assumption) ?_
      · intro w hSw
        try dsimp only at hSw
        go_simp
      simp only [Act.put, List.setIfInBounds_toArray, List.set_cons_zero, List.set_cons_succ]
      refine take_yes 8 33 (.bool true) rfl rfl (by kernel_rfl) (by kernel_rfl) (by kernel_rfl) (fun _ _ _ h => h) rfl ?_ (by assumption) ?_
      · intro w hSw
        try dsimp only at hSw
        go_simp
      simp only [Act.put, List.setIfInBounds_toArray, List.set_cons_zero, List.set_cons_succ]
      refine take_yes 9 34 (.bool true) rfl rfl (by kernel_rfl) (by kernel_rfl) (by kernel_rfl) (fun _ _ _ h => h) rfl ?_ (by assumption) ?_
      · intro w hSw
        try dsimp only at hSw
        go_simp
      simp only [Act.put, List.setIfInBounds_toArray, List.set_cons_zero, List.set_cons_succ]
      refine take_yes 10 35 (.bool true) rfl rfl (by kernel_rfl) (by kernel_rfl) (by kernel_rfl) (fun _ _ _ h => h) rfl ?_ (by assumption) ?_
      · intro w hSw
        try dsimp only at hSw
        go_simp
      simp only [Act.put, List.setIfInBounds_toArray, List.set_cons_zero, List.set_cons_succ]
      refine take_yes 11 36 (.bool true) rfl rfl (by kernel_rfl) (by kernel_rfl) (by kernel_rfl) (fun _ _ _ h => h) rfl ?_ (by assumption) ?_
      · intro w hSw
        try dsimp only at hSw
        go_simp
      simp only [Act.put, List.setIfInBounds_toArray, List.set_cons_zero, List.set_cons_succ]
      refine take_yes 12 37 (.bool true) rfl rfl (by kernel_rfl) (by kernel_rfl) (by kernel_rfl) (fun _ _ _ h => h) rfl ?_ (by assumption) ?_
      · intro w hSw
        try dsimp only at hSw
        go_simp
      simp only [Act.put, List.setIfInBounds_toArray, List.set_cons_zero, List.set_cons_succ]
      refine take_no 13 38 rfl rfl (by kernel_rfl) (by kernel_rfl) (by kernel_rfl) (fun _ _ _ h => h) rfl (by assumption) ?_
      simp only [Act.put, List.setIfInBounds_toArray, List.set_cons_zero, List.set_cons_succ]
      refine take_no 14 39 rfl rfl (by kernel_rfl) (by kernel_rfl) (by kernel_rfl) (fun _ _ _ h => h) rfl (by assumption) ?_
      simp only [Act.put, List.setIfInBounds_toArray, List.set_cons_zero, List.set_cons_succ]
      refine take_yes 15 40 (.bool true) rfl rfl (by kernel_rfl) (by kernel_rfl) (by kernel_rfl) (fun _ _ _ h => h) rfl ?_ (by assumption) ?_
      · intro w hSw
        try dsimp only at hSw
        go_simp
      simp only [Act.put, List.setIfInBounds_toArray, List.set_cons_zero, List.set_cons_succ]
      refine take_yes 16 41 (.bool true) rfl rfl (by kernel_rfl) (by kernel_rfl) (by kernel_rfl) (fun _ _ _ h => h) rfl ?_ (by assumption) ?_
      · intro w hSw
        try dsimp only at hSw
        go_simp
      simp only [Act.put, List.setIfInBounds_toArray, List.set_cons_zero, List.set_cons_succ]
      refine take_yes 17 2 (.bool true) rfl rfl (by kernel_rfl) (by kernel_rfl) (by kernel_rfl) (fun _ _ _ h => h) rfl ?_ (by assumption) ?_
      · intro w hSw
        try dsimp only at hSw
        go_simp
      simp only [Act.put, List.setIfInBounds_toArray, List.set_cons_zero, List.set_cons_succ]
      refine wpAnyH_done (by kernel_rfl) ?_ _
      go_wp2
      go_ret
      exact ⟨rfl, HB4.out⟩
    · go_wp2_with fail
      refine HD.out.mono ?_
      rintro e w1 ⟨rfl, hb⟩
      have hb0 := hb.alloc hb.size (.cells #[.int .i64 k, .int .i64 hd, .int .i64 s] 24)
      have HB1 := Lib.hid (HB0.out.trans (hb0.mono HB0.out.size))
      have HX1 := Lib.hid (boxed w1 k hd s 24)
      have H1 := Lib.hid (H0.out.keep hb0)
      clear hb hb0 HB0 H0 HD
      go_wp2_with fail
      refine (HR.out _ H1.out).mono ?_
      rintro e w2 ⟨rfl, hb⟩
      have hb0 := hb.alloc hb.size (.cells #[.int .i64 k, .int .i64 hd, .int .i64 s] 33)
      have HB2 := Lib.hid (HB1.out.trans (hb0.mono HB1.out.size))
      have HX2 := Lib.hid (HX1.out.keep hb0)
      have HY2 := Lib.hid (boxed w2 k hd s 33)
      clear hb hb0 HB1 HX1 H1 HR
      go_wp2
      generalize w2.alloc (.cells #[.int .i64 k, .int .i64 hd, .int .i64 s] 33) = w3 at *
      generalize w1.heap.size = k1 at *
      generalize w2.heap.size = k2 at *
      have hc0 := HX2.out.c0
      have hc1 := HX2.out.c1
      have hc2 := HX2.out.c2
      have hd0 := HY2.out.c0
      have hd1 := HY2.out.c1
      have hd2 := HY2.out.c2
      go_region_held3 (fun W' => (W'.cell? ⟨k1, 0, none⟩ = some (.int .i64 k) ∧ W'.cell? ⟨k1, 1, none⟩ = some (.int .i64 hd) ∧ W'.cell? ⟨k1, 2, none⟩ = some (.int .i64 s)) ∧ (W'.cell? ⟨k2, 0, none⟩ = some (.int .i64 k) ∧ W'.cell? ⟨k2, 1, none⟩ = some (.int .i64 hd) ∧ W'.cell? ⟨k2, 2, none⟩ = some (.int .i64 s))) (go_keep)
        (first
        | (go_at_call 10
           with_reducible refine (HRF.out _).mono ?_
           rintro e w4 ⟨rfl, hb⟩
           have HX4 := Lib.hid (HX2.out.drew.keep hb)
           have HY4 := Lib.hid (HY2.out.drew.keep hb)
           have hk0 := HX4.out.c0
           have hk1 := HX4.out.c1
           have hk2 := HX4.out.c2
           have hl0 := HY4.out.c0
           have hl1 := HY4.out.c1
           have hl2 := HY4.out.c2
           have HB4 := Lib.hid (HB2.out.drew.trans (hb.mono HB2.out.drew.size))
           clear hb))
      go_wp2
      go_ret
      exact ⟨rfl, HB4.out⟩
  · go_enter Try.func4, Try.ntmps4
    go_wp2_with fail
    refine (HL.out _).mono ?_
    rintro e w0 ⟨rfl, hb⟩
    have HB0 := Lib.hid hb
    clear hb
    go_wp2_with fail
    refine (HL.out _).mono ?_
    rintro e w1 ⟨rfl, hb⟩
    have HB1 := Lib.hid (HB0.out.trans (hb.mono HB0.out.size))
    clear hb
    go_wp2
    go_ret
    exact ⟨rfl, HB1.out⟩
end
end Ino
end Go.Proofs.Ytoigfhijlnajoaa
