/- PmFuse's walk. -/
import Derived.Test.YtlcjnmoicjgaiaaPmCopyTwo
import Derived.Test.YtlcjnmoicjgaiaaPmArgs
namespace Go.Proofs.Ytlcjnmoicjgaiaa
open Go.RowKit Go.MapKept
namespace Pm

theorem mark_fuse (A : Abs) (k : Nat) : (A.mark k).armed = A.armed ∧ (A.mark k).left = A.left := by
  unfold Abs.mark; split <;> exact ⟨rfl, rfl⟩
theorem marks_fuse (A : Abs) (i : Nat) : ∀ n, (A.marks i n).armed = A.armed ∧ (A.marks i n).left = A.left
  | 0 => ⟨rfl, rfl⟩
  | n + 1 => by
    have h1 := mark_fuse (A.marks i n) (i + n)
    have h2 := marks_fuse A i n
    exact ⟨h1.1.trans h2.1, h1.2.trans h2.2⟩
theorem settle_fuse (A : Abs) (k : Nat) : (A.settle k).armed = A.armed ∧ (A.settle k).left = A.left := by
  unfold Abs.settle
  split
  · exact ⟨rfl, rfl⟩
  · split <;> exact ⟨rfl, rfl⟩
theorem settles_fuse : ∀ (l : List Nat) (A : Abs), (A.settles l).armed = A.armed ∧ (A.settles l).left = A.left
  | [], _ => ⟨rfl, rfl⟩
  | k :: r, A => by
    have h1 := settles_fuse r (A.settle k)
    have h2 := settle_fuse A k
    exact ⟨h1.1.trans h2.1, h1.2.trans h2.2⟩

/-- an armed device burns its fuse by its steps -/
def Burns (A A' : Abs) : Prop := A.armed = true → A'.armed = true ∧ A'.left + A'.steps = A.left + A.steps
theorem step_burns {A : Abs} (hd : A.down = false) : Burns A A.step := fun ha => by
  simp only [Abs.down, ha, Bool.true_and, beq_eq_false_iff_ne] at hd
  refine ⟨ha, ?_⟩
  simp only [Abs.step, ha, if_true]
  omega
theorem burns_store (A : Abs) (i x : Int) : Burns A (A.storeAt i x) := by
  unfold Abs.storeAt
  cases hc : A.canStore i with
  | false => exact fun ha => ⟨ha, rfl⟩
  | true =>
    simp only [Abs.canStore, Bool.and_eq_true, Bool.not_eq_true'] at hc
    exact step_burns hc.2
theorem burns_flush (A : Abs) (i : Int) : Burns A (A.flushAt i) := by
  unfold Abs.flushAt
  cases hc : A.canFlush i with
  | false => exact fun ha => ⟨ha, rfl⟩
  | true =>
    simp only [Abs.canFlush, Bool.and_eq_true, Bool.not_eq_true'] at hc
    intro ha
    have h1 := step_burns hc.2 ha
    simp only [if_true, Abs.flush]
    rw [(marks_fuse _ _ _).1, (marks_fuse _ _ _).2, marks_steps]
    exact h1
theorem burns_fence (A : Abs) : Burns A A.fenceAt := by
  unfold Abs.fenceAt
  cases hd : A.down with
  | true => exact fun ha => ⟨ha, rfl⟩
  | false =>
    intro ha
    have h1 := step_burns hd ha
    show (A.step.settles A.marked).armed = true ∧ (A.step.settles A.marked).left + (A.step.settles A.marked).steps = _
    rw [(settles_fuse _ _).1, (settles_fuse _ _).2, (settles_steps _ _).1]
    exact h1

/-- what play leaves of a device -/
def PlayRes (w : World) (a : Nat) (D : Dev) (r : Ending) (w' : World) : Prop :=
  (∃ b, r = .returned (.tuple #[.agg #[.slice none 0 0, .int .i64 0, .int .i64 0, .int .i64 0], .bool b])) ∧ ∃ D', Res w a D w' D' ∧ Goes D.abs D'.abs ∧ Burns D.abs D'.abs ∧ (D.abs.down = true → D'.abs = D.abs)

theorem rep_play {w : World} {a : Nat} {D : Dev} (hrep : Rep w a D) (hok : D.abs.Ok) (k W X : Int) (C : Option Addr) (n c : Nat) (h0 : 0 ≤ k) (h1 : k < 256) (hk : k % 8 < 6) (hs : D.abs.steps + 1 < 100000000000) :
    Calls Try.prog 9 #[.pointer (some ⟨a, 0, none⟩), .agg #[.slice none 0 0, .int .i64 0, .int .i64 0, .int .i64 0], .agg #[.int .u8 k, .int .i64 W, .int .u64 X, .slice C n c]] w (PlayRes w a D) := by
  have fin : ∀ A', Goes D.abs A' → Burns D.abs A' → (D.abs.down = true → A' = D.abs) → Calls Try.prog 9 #[.pointer (some ⟨a, 0, none⟩), .agg #[.slice none 0 0, .int .i64 0, .int .i64 0, .int .i64 0], .agg #[.int .u8 k, .int .i64 W, .int .u64 X, .slice C n c]] w (Played w a D A') →
      Calls Try.prog 9 #[.pointer (some ⟨a, 0, none⟩), .agg #[.slice none 0 0, .int .i64 0, .int .i64 0, .int .i64 0], .agg #[.int .u8 k, .int .i64 W, .int .u64 X, .slice C n c]] w (PlayRes w a D) := fun A' hg hbn hd hc =>
    hc.mono fun r w' ⟨hr, D', hres, ha⟩ => ⟨hr, D', hres, by rw [ha]; exact hg, by rw [ha]; exact hbn, fun h => by rw [ha]; exact hd h⟩
  have hm0 : 0 ≤ k % 8 := Int.emod_nonneg _ (by omega)
  by_cases h3 : k % 8 < 3
  · exact fin _ (goes_store hok hs W X) (burns_store _ _ _) (fun hd => by simp [Abs.storeAt, Abs.canStore, hd]) (play_store hrep hok k W X C n c (k % 8) h3 rfl h0 h1)
  · by_cases h4 : k % 8 = 3
    · exact fin _ (goes_flush hok hs _) (burns_flush _ _) (fun hd => by simp [Abs.flushAt, Abs.canFlush, hd]) (play_flush3 hrep hok k W X C n c h4 h0 h1 hs)
    · by_cases h5 : k % 8 = 4
      · exact fin _ (goes_fence hok hs) (burns_fence _) (fun hd => by simp [Abs.fenceAt, hd]) (play_fence hrep hok k W X C n c h5 h0 h1 hs)
      · exact fin _ (goes_flush hok hs _) (burns_flush _ _) (fun hd => by simp [Abs.flushAt, Abs.canFlush, hd]) (play_flush5 hrep hok k W X C n c (by omega) h0 h1 hs)

/-- the device, unchanged, and its copy have the same words -/
theorem fuse_same {w5 w6 w7 : World} {a c g cap m : Nat} {D D2 : Dev} (hca : CopyAt w5 w6 D.words c g cap m) (hr5 : Rep w5 a D) (hres : Res w6 a D w7 D2) (hwd : D2.words = D.words) (hl : D.words.length < 1000000000000) :
    Calls Try.prog 19 #[.pointer (some ⟨a, 0, none⟩), .pointer (some ⟨c, 0, none⟩)] w7 fun r w' => r = .returned (.bool true) ∧ ∃ n, w' = w7.drewN n := by
  have hk : ∀ k, k < w6.heap.size → w5.heap.size ≤ k → w7.heap[k]? = w6.heap[k]? := fun k hk hle => hres.off.block k hk (fun hf => by have := hr5.foot_lt hf; omega)
  obtain ⟨cs, hc, h4, _⟩ := hca.dev
  obtain ⟨cur, hg⟩ := words_lt hca.wds
  have hc7 := (hk c (lt_of_some hc) hca.lec).trans hc
  have hw7 : Words w5.heap.size w7 (.slice (some ⟨g, 0, none⟩) D.words.length cap) D.words := row_keep hca.wds (fun g' hg' => by
    simp [Value.ownBlock] at hg'
    subst hg'
    exact hk _ (lt_of_some hg) hca.leg)
  have k4 := hres.rep.c4
  rw [hwd] at k4
  refine same_any c D2.wb g D.words.length cap D.words hl k4 (by rw [blk_cell hc7]; exact h4) (fun i hi => ?_) (fun i hi => words_cell hw7 hi)
  have := hres.rep.word i
  rw [hwd, List.getElem?_eq_getElem hi] at this
  exact this

set_option maxHeartbeats 3200000 in
set_option maxRecDepth 100000 in
theorem fuse_any {w : World} (s : Nat) (hs : s < 256) (A : Option Addr) (cn cc : Nat) (f : Nat → ActV) (hA : Acts w w.heap.size A cn f) :
    Calls Try.prog 4 #[.int .u8 (s : Int), .slice A cn cc] w fun r w' => r = .returned (.bool true) ∧ Below w.heap.size w w' := by
  have HL := Lib.hid (fun W => lives_any W)
  have HA := Lib.hid hA
  have hcn := hA.1
  clear hA
  go_enter Try.func4, Try.ntmps4
  go_wp2_with fail
  refine (HL.out _).mono ?_
  rintro r w1 ⟨rfl, hb1⟩
  have H1 := Lib.hid hb1
  clear hb1
  go_wp2_with fail
  have hc := few_any A cn cc f (acts_below HA.out H1.out)
  refine hc.mono ?_
  clear hc
  rintro r w2 ⟨b, rfl, hb60, ho2⟩
  have H2 := Lib.hid (H1.out.trans ((off_below ho2).mono H1.out.size))
  clear ho2 H1
  cases b
  · clear hb60
    go_wp2_with fail
    refine (HL.out _).mono ?_
    rintro r w3 ⟨rfl, hb3⟩
    have H3 := Lib.hid hb3
    clear hb3
    go_wp2
    go_ret
    exact ⟨rfl, H2.out.trans (H3.out.mono H2.out.size)⟩
  · have h60 : cn ≤ 60 := hb60 rfl
    clear hb60
    go_wp2_with fail
    refine (ses_new 40 40 (by decide) w2).mono ?_
    rintro r w3 ⟨rfl, h3⟩
    obtain ⟨D3, hrep3, ha3, hok3, hbel3, hf3, hz3⟩ := h3
    have harm := arm_any hrep3 s
    have HS3 := Lib.hid (show Ses w2.heap.size w2 w3 (w2.heap.size + 2) (Abs.fresh 40) from ⟨D3, hrep3, ha3, hok3, hbel3, hf3, hz3⟩)
    have HARM := Lib.hid harm
    have HA3 := Lib.hid ha3
    have HB3 := Lib.hid hbel3
    have HF3 := Lib.hid hf3
    have HZ3 := Lib.hid hz3
    clear harm hrep3 ha3 hok3 hbel3 hf3 hz3
    go_wp2_with fail
    refine HARM.out.mono ?_
    rintro r w4 ⟨rfl, hres4⟩
    have hses4 : Ses w2.heap.size w2 w4 (w2.heap.size + 2) ⟨0, 0, true, s, List.replicate 40 0, [], []⟩ := by
      refine ses_step HB3.out HF3.out HZ3.out hres4 ?_ ?_
      · have := HA3.out
        simp only [Dev.abs, Abs.fresh, Abs.mk.injEq] at this ⊢
        obtain ⟨h1, h2, _, _, h5, h6, h7⟩ := this
        exact ⟨h1, h2, trivial, trivial, h5, h6, h7⟩
      · refine ⟨by simp, by simp, by simp, by simp, by simp, by simp, Nat.le_refl _, by show 0 < 100000000000; omega, by show s < 4611686018427387904; omega⟩
    have HS4 := Lib.hid hses4
    clear hses4 hres4
    go_wp2_with fail
    go_loopw [28] (fun i wr => ∃ (q : Nat) (A' : Abs), q ≤ cn ∧ i = .int .i64 (q : Int) ∧ Ses w2.heap.size w2 wr (w2.heap.size + 2) A' ∧ A'.steps ≤ q ∧ A'.words.length = 40 ∧ A'.armed = true ∧ A'.left + A'.steps = s) (fun i _ => cn - (intOf i).toNat)
    case atStart => exact ⟨0, _, Nat.zero_le _, rfl, HS4.out, Nat.le_refl _, by simp, rfl, by simp⟩
    case round =>
      obtain ⟨q, A', hq, rfl, hses, hst, hwl, harmed, hleft⟩ := hrel
      by_cases hlt : q < cn
      · obtain ⟨b, o, rfl, hb, ha, hcn2⟩ := (acts_below HA.out (H2.out.trans (hses.below.mono H2.out.size))).2 q hlt
        have a0 := ha.c0
        have a1 := ha.c1
        have a2 := ha.c2
        have a3 := ha.c3
        have k0 := ha.k0
        have k1 := ha.k1
        have HS := Lib.hid hses
        have HAR := Lib.hid harmed
        have HLE := Lib.hid hleft
        have HWL := Lib.hid hwl
        clear hses ha harmed hleft hwl
        by_cases hk6 : (f q).k % 8 < 6
        · obtain ⟨D, hrep, habs, hok, hbel, hf, hz⟩ := HS.out.off ((Off.refl _ _).alloc (.cells #[.int .u8 (f q).k, .int .i64 (f q).w, .int .u64 (f q).x, .slice (f q).c (f q).n (f q).cap] 30))
          subst habs
          have hwl : D.words.length = 40 := HWL.out
          have harm : D.armed = true := HAR.out
          have hle : D.left + D.steps = s := HLE.out
          have HST := Lib.hid (steps_any hrep)
          have HCP := Lib.hid (copy_any hrep hok (by omega))
          have HREP := Lib.hid hrep
          have HOK := Lib.hid hok
          have HBEL := Lib.hid hbel
          have HF := Lib.hid hf
          have HZ := Lib.hid hz
          have HARM := Lib.hid harm
          have HW40 := Lib.hid hwl
          have HLEE := Lib.hid hle
          clear hrep hok hbel hf hz harm hwl hle
          go_wp2_with fail
          refine HST.out.mono ?_
          rintro r w5 ⟨rfl, hw5⟩
          subst hw5
          go_wp2_with fail
          refine HCP.out.mono ?_
          rintro r w6 ⟨cb, g, cap, mm, rfl, hca⟩
          have hrep6 : Rep w6 (w2.heap.size + 2) D := HREP.out.keep (fun k hk => hca.off.block k (HREP.out.foot_lt hk) id)
          have hblk : w6.heap[wr.heap.size]? = some (.cells #[.int .u8 (f q).k, .int .i64 (f q).w, .int .u64 (f q).x, .slice (f q).c (f q).n (f q).cap] 30 (0, 0)) := (hca.off.block _ (by simp) id).trans (heap_alloc wr _).1
          obtain ⟨e0, e1, e2, e3, _, _, _, _⟩ := four_cells hblk
          have hdn := down_any hrep6
          have hpl := rep_play hrep6 HOK.out (f q).k (f q).w (f q).x (f q).c (f q).n (f q).cap k0 k1 hk6 (by show D.abs.steps + 1 < _; omega)
          have HCA := Lib.hid hca
          have HR6 := Lib.hid hrep6
          have HPL := Lib.hid hpl
          clear hca hrep6 hblk hpl
          by_cases hl0 : D.left = 0
          · have hdd : D.down = true := by simp [Dev.down, HARM.out, hl0]
            have hsq : ((D.steps : Int) == (s : Int)) = true := by have := HLEE.out; simp; omega
            rw [hdd] at hdn
            have HDN := Lib.hid hdn
            have HDD := Lib.hid hdd
            clear hdn hl0 hdd
            go_wp2_with fail
            refine HDN.out.mono ?_
            rintro r w7 ⟨rfl, hw7⟩
            subst hw7
            go_wp2_with fail
            refine HPL.out.mono ?_
            rintro r w7 ⟨⟨bb, rfl⟩, D2, hres, hgo, hbu, hdw⟩
            have hab : D2.abs = D.abs := hdw HDD.out
            have hst2 : D2.steps = D.steps := congrArg Abs.steps hab
            have hwd2 : D2.words = D.words := congrArg Abs.words hab
            have hstep := steps_any hres.rep
            rw [hst2] at hstep
            have hle2 : ¬ ((s : Int) < (D.steps : Int)) := by have := HLEE.out; omega
            have hsame := fuse_same HCA.out HREP.out hres hwd2 (by have := HW40.out; omega)
            have hses7 : Ses w2.heap.size w2 w7 (w2.heap.size + 2) D2.abs := ses_step (HBEL.out.trans ((off_below HCA.out.off).mono HZ.out)) HF.out (Nat.le_trans HZ.out HCA.out.off.size) hres rfl hgo.1
            have HSTEP := Lib.hid hstep
            have HSAME := Lib.hid hsame
            have HSES7 := Lib.hid hses7
            have HAB := Lib.hid hab
            have HREP7 := Lib.hid hres.rep
            have HST2 := Lib.hid hst2
            clear hab hst2 hwd2 hstep hsame hses7 hres hgo hbu hdw
            go_wp2_with fail
            refine HSTEP.out.mono ?_
            rintro r w8 ⟨rfl, hw8⟩
            subst hw8
            go_wp2_with fail
            refine HSAME.out.mono ?_
            rintro r w8 ⟨rfl, nd, rfl⟩
            have hstep8 := steps_any (HREP7.out.keep (w' := w7.drewN nd) (fun _ _ => rfl))
            rw [HST2.out] at hstep8
            have HS8 := Lib.hid hstep8
            clear hstep8
            go_wp2_with fail
            refine HS8.out.mono ?_
            rintro r w8 ⟨rfl, hw8⟩
            subst hw8
            go_wp2
            refine ⟨⟨q + 1, D2.abs, by omega, by go_num, HSES7.out.off ((Off.refl _ _).drewN nd), ?_⟩, by simp [intOf]; omega⟩
            rw [HAB.out]
            exact ⟨by omega, HWL.out, HAR.out, HLE.out⟩
          · have hdd : D.down = false := by simp [Dev.down, hl0]
            have hsq : ((D.steps : Int) == (s : Int)) = false := by have := HLEE.out; simp; omega
            rw [hdd] at hdn
            have HDN := Lib.hid hdn
            clear hdn hl0 hdd
            go_wp2_with fail
            refine HDN.out.mono ?_
            rintro r w7 ⟨rfl, hw7⟩
            subst hw7
            go_wp2_with fail
            refine HPL.out.mono ?_
            rintro r w7 ⟨⟨bb, rfl⟩, D2, hres, hgo, hbu, hdw⟩
            have hb2 := hbu HAR.out
            have hst2 : D2.left + D2.steps = s := hb2.2.trans HLE.out
            have hstep := steps_any hres.rep
            have hle2 : ¬ ((s : Int) < (D2.steps : Int)) := by omega
            have hses7 : Ses w2.heap.size w2 w7 (w2.heap.size + 2) D2.abs := ses_step (HBEL.out.trans ((off_below HCA.out.off).mono HZ.out)) HF.out (Nat.le_trans HZ.out HCA.out.off.size) hres rfl hgo.1
            have HSTEP := Lib.hid hstep
            have HSES7 := Lib.hid hses7
            have HGO := Lib.hid hgo
            have HB2 := Lib.hid hb2
            clear hst2 hstep hses7 hres hgo hbu hdw hb2
            go_wp2_with fail
            refine HSTEP.out.mono ?_
            rintro r w8 ⟨rfl, hw8⟩
            subst hw8
            go_wp2
            refine ⟨⟨q + 1, D2.abs, by omega, by go_num, HSES7.out, ?_, HGO.out.2.2.trans HWL.out, HB2.out.1, HB2.out.2.trans HLE.out⟩, by simp [intOf]; omega⟩
            have := HGO.out.2.1
            omega
        · go_wp2
          exact ⟨⟨q + 1, A', by omega, by go_num, HS.out.off ((Off.refl _ _).alloc _), by omega, HWL.out, HAR.out, HLE.out⟩, by simp [intOf]; omega⟩
      · obtain ⟨D, hrep, habs, hok, hbel, hf, hz⟩ := hses
        subst habs
        have hcr := crash_any hrep hok none 0 0 ⟨by omega, fun j hj => absurd hj (by omega)⟩ (fun b o h0 => absurd h0 (by omega))
        have HCR := Lib.hid hcr
        have HBEL := Lib.hid hbel
        have HF := Lib.hid hf
        have HZ := Lib.hid hz
        have HOK := Lib.hid hok
        clear hcr hrep hok hbel hf hz harmed hleft
        go_wp2_with fail
        refine HCR.out.mono ?_
        rintro r w5 ⟨rfl, D5, hres5, hcd⟩
        have hok5 := crashed_ok HOK.out hcd
        have hdf : D5.down = false := by
          have : D5.armed = false := hcd.armed
          simp [Dev.down, this]
        have hdn := down_any hres5.rep
        rw [hdf] at hdn
        have hfe := fence_yes hres5.rep hok5 hdf (by have := hcd.steps; show D5.abs.steps + 1 < _; omega)
        have hbel5 : Below w2.heap.size w2 w5 := HBEL.out.trans (hres5.off.below HZ.out HF.out)
        have hf5 : ∀ k, Foot (w2.heap.size + 2) D5 k → w2.heap.size ≤ k := fun k hk => by
          rcases hres5.foot k hk with h1 | h1
          · exact HF.out k h1
          · have := HZ.out; omega
        have HDN := Lib.hid hdn
        have HFE := Lib.hid hfe
        have HB5 := Lib.hid hbel5
        have HF5 := Lib.hid hf5
        clear hok5 hdf hdn hfe hbel5 hf5 hres5 hcd
        go_wp2_with fail
        refine HDN.out.mono ?_
        rintro r w6 ⟨rfl, hw6⟩
        subst hw6
        go_wp2_with fail
        refine HFE.out.mono ?_
        rintro r w6 ⟨rfl, D6, hres6, _⟩
        have hbel6 : Below w2.heap.size w2 w6 := HB5.out.trans (hres6.off.below HB5.out.size HF5.out)
        have HB6 := Lib.hid hbel6
        clear hres6 hbel6
        go_wp2
        go_ret
        exact ⟨rfl, H2.out.trans (HB6.out.mono H2.out.size)⟩
end Pm
end Go.Proofs.Ytlcjnmoicjgaiaa
