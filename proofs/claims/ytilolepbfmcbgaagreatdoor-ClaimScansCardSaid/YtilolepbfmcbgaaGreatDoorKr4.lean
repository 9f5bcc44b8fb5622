/- Texts laid together: PmFlush, PmMay, PmSes, PmLives, SupLives, CrcLine, SupTurned, SupRead, VolDev, VolOf, VolLay, VolMed, VolLin, VolWrite, VolVol. -/
import Derived.Test.YtilolepbfmcbgaaGreatDoorKr3
import Derived.Lib.SliceRun
import Derived.Test.YtilolepbfmcbgaaGreatDoorKr2
import Derived.RegionTactic
import Derived.ChangeAlike
import Derived.Test.YtilolepbfmcbgaaGreatDoorKr1
import Derived.Test.YtilolepbfmcbgaaGreatDoorKa1
import Derived.Shelf.SlicesG.CompactI
import Derived.Ground.SlgnProg
import Derived.Test.YtilolepbfmcbgaaGreatDoorProg
import Derived.Lib.OwnBridge
import Derived.Test.YtilolepbfmcbgaaGreatDoorKa2
import Derived.Test.YtilolepbfmcbgaaGreatDoorKa3
/- The device's Flush and Fence. -/
namespace Go.Proofs.YtilolepbfmcbgaaGreatDoor
open Go.RowKit Go.MapKept
namespace Pm

def Abs.marks (A : Abs) (i : Nat) : Nat → Abs
  | 0 => A
  | n + 1 => (A.marks i n).mark (i + n)
def Abs.flush (A : Abs) (line : Nat) : Abs := A.step.marks (8 * line) (min 8 (A.words.length - 8 * line))

theorem mark_words (A : Abs) (k : Nat) : (A.mark k).words = A.words := by
  unfold Abs.mark; split <;> rfl
theorem marks_words (A : Abs) (i : Nat) : ∀ n, (A.marks i n).words = A.words
  | 0 => rfl
  | n + 1 => by rw [Abs.marks, mark_words, marks_words A i n]
theorem marks_ok {A : Abs} (h : A.Ok) (i : Nat) : ∀ n, (A.marks i n).Ok
  | 0 => h
  | n + 1 => mark_ok (marks_ok h i n) (i + n)
theorem flush_ok {A : Abs} (h : A.Ok) (line : Nat) (hs : A.steps + 1 < 100000000000) : (A.flush line).Ok := marks_ok (step_ok h hs) _ _

section
variable {w : World} {a : Nat} {D : Dev}

theorem flush_neg (line : Int) (hl : line < 0) : Calls Tryz.prog 97 #[.pointer (some ⟨a, 0, none⟩), .int .i64 line] w fun r w' => r = .returned (.bool false) ∧ w = w' := by
  go_enter Tryz.func97, Tryz.ntmps97
  go_wp2
  go_ret
  exact ⟨rfl, rfl⟩

theorem flush_far (h : Rep w a D) (line : Nat) (hl : (D.words.length + 7) / 8 ≤ line) (hw : D.words.length ≤ 4194304) : Calls Tryz.prog 97 #[.pointer (some ⟨a, 0, none⟩), .int .i64 (line : Int)] w fun r w' => r = .returned (.bool false) ∧ w = w' := by
  have c4 := h.c4
  obtain ⟨n, hn⟩ : ∃ n, n = D.words.length := ⟨_, rfl⟩
  rw [← hn] at c4 hl hw
  clear hn h
  have g1 : ((n : Int) + 8 - 1) / 8 ≤ (line : Int) := by omega
  clear hl
  go_enter Tryz.func97, Tryz.ntmps97
  go_wp2
  go_ret
  exact ⟨rfl, rfl⟩

theorem flush_down (h : Rep w a D) (line : Nat) (hl : line < (D.words.length + 7) / 8) (hw : D.words.length ≤ 4194304) (hd : D.down = true) : Calls Tryz.prog 97 #[.pointer (some ⟨a, 0, none⟩), .int .i64 (line : Int)] w fun r w' => r = .returned (.bool false) ∧ w = w' := by
  have c4 := h.c4
  have HS := Lib.hid (step_no h hd)
  obtain ⟨n, hn⟩ : ∃ n, n = D.words.length := ⟨_, rfl⟩
  rw [← hn] at c4 hl hw
  clear hn h hd
  have g1 : (line : Int) < ((n : Int) + 8 - 1) / 8 := by omega
  clear hl
  go_enter Tryz.func97, Tryz.ntmps97
  go_wp2_with (go_at_call 137; refine HS.out.mono ?_; rintro e w' ⟨rfl, rfl⟩)
  go_ret
  exact ⟨rfl, rfl⟩

/-- the loop's relation -/
def FlushRel (w : World) (a : Nat) (D : Dev) (line : Nat) (n : Nat) (wr : World) : Prop :=
  ∃ D' : Dev, Res w a D wr D' ∧ D'.abs = D.abs.step.marks (8 * line) n ∧ D'.wb = D.wb ∧ D'.words.length = D.words.length

theorem mark_at (h : Rep w a D) (ok : D.abs.Ok) (i : Int) (k : Nat) (hi : i = (k : Int)) : Calls Tryz.prog 139 #[.pointer (some ⟨a, 0, none⟩), .int .i64 i] w fun r w' =>
    r = .returned (.tuple #[]) ∧ ∃ D', Res w a D w' D' ∧ D'.abs = D.abs.mark k ∧ D'.wb = D.wb := by
  subst hi
  exact mark_any h ok k

theorem flush_step {wr : World} {line n : Nat} (ok : D.abs.Ok) (hs : D.steps + 1 < 100000000000) (h : FlushRel w a D line n wr) (i : Int) (hi : i = ((8 * line + n : Nat) : Int)) :
    Calls Tryz.prog 139 #[.pointer (some ⟨a, 0, none⟩), .int .i64 i] wr fun r w' => r = .returned (.tuple #[]) ∧ FlushRel w a D line (n + 1) w' := by
  obtain ⟨D', hres, habs, hwb, hlen⟩ := h
  have ok' : D'.abs.Ok := by rw [habs]; exact marks_ok (step_ok ok hs) _ _
  refine (mark_at hres.rep ok' i _ hi).mono fun r w' ⟨hr, D2, hres2, habs2, hwb2⟩ => ⟨hr, D2, hres.trans hres2, ?_, hwb2.trans hwb, ?_⟩
  · rw [habs2, habs]; rfl
  · have : D2.abs.words = D'.abs.words := by rw [habs2, mark_words]
    have : D2.words = D'.words := this
    rw [this, hlen]

theorem flush_c4 {wr : World} {line n : Nat} (h : FlushRel w a D line n wr) : ∃ c, wr.cell? ⟨a, 4, none⟩ = some (.slice (some ⟨D.wb, 0, none⟩) D.words.length c) := by
  obtain ⟨D', hres, habs, hwb, hlen⟩ := h
  exact ⟨D'.wcap, by rw [hres.rep.c4, hwb, hlen]⟩

set_option maxHeartbeats 1600000 in
set_option maxRecDepth 100000 in
theorem flush_yes (h : Rep w a D) (ok : D.abs.Ok) (hd : D.abs.down = false) (line : Nat) (hl : 8 * line < D.words.length) (hs : D.steps + 1 < 100000000000) :
    Calls Tryz.prog 97 #[.pointer (some ⟨a, 0, none⟩), .int .i64 (line : Int)] w fun r w' => r = .returned (.bool true) ∧ ∃ D', Res w a D w' D' ∧ D'.abs = D.abs.flush line := by
  have c4 := h.c4
  have hw : D.words.length ≤ 4194304 := ok.size
  have HS := Lib.hid (step_yes h hd (by omega) ok.fuse)
  have HF := fun wr n (x : FlushRel w a D line n wr) => flush_step ok hs x
  have HFS := Lib.hid HF
  have HC := Lib.hid (fun wr n (x : FlushRel w a D line n wr) => flush_c4 x)
  have hfl : D.abs.flush line = D.abs.step.marks (8 * line) (min 8 (D.words.length - 8 * line)) := rfl
  rw [hfl]
  obtain ⟨L, hL⟩ : ∃ L, L = D.words.length := ⟨_, rfl⟩
  rw [← hL] at c4 hw hl HC ⊢
  have g1 : decide ((line : Int) < 0) = false := by simp
  have g2 : decide (((L : Int) + 8 - 1) / 8 ≤ (line : Int)) = false := by simp; omega
  have H := Lib.hid h
  have HHL := Lib.hid hL
  clear h hd ok HF hL hfl
  go_enter Tryz.func97, Tryz.ntmps97
  go_wp2_with (go_at_call 137; refine HS.out.mono ?_; rintro e w1 ⟨rfl, hr1, ho1, hz1⟩
               have HR1 := Lib.hid (step_res hr1 ho1)
               clear hr1 ho1 hz1)
  go_loopw [6] (fun i wr => ∃ n : Nat, n ≤ min 8 (L - 8 * line) ∧ i = .int .i64 ((line : Int) * 8 + (n : Int)) ∧ FlushRel w a D line n wr) (fun i _ => (8 * line + 8) - (intOf i).toNat)
  case atStart => exact ⟨0, Nat.zero_le _, by simp, D.stepped, HR1.out, rfl, rfl, rfl⟩
  case round =>
    obtain ⟨n, hn, rfl, hrel⟩ := hrel
    obtain ⟨kc, k4⟩ := HC.out _ _ hrel
    have HREL := Lib.hid hrel
    clear hrel
    by_cases hq : L < 8 * line + 8
    · by_cases hlt : 8 * line + n < L
      · go_wp2_with (go_at_call 139; refine (HFS.out _ _ HREL.out _ (by omega)).mono ?_; rintro e w2 ⟨rfl, hr2⟩; have HR2 := Lib.hid hr2; clear hr2)
        go_roundw
        case rel => exact ⟨n + 1, by omega, by go_num, HR2.out⟩
        case measure => simp [intOf]; omega
      · go_wp2
        go_ret
        obtain ⟨D', hres, habs, _⟩ := HREL.out
        exact ⟨rfl, D', hres, by rw [habs, show min 8 (L - 8 * line) = n by omega]⟩
    · by_cases hlt : n < 8
      · go_wp2_with (go_at_call 139; refine (HFS.out _ _ HREL.out _ (by omega)).mono ?_; rintro e w2 ⟨rfl, hr2⟩; have HR2 := Lib.hid hr2; clear hr2)
        go_roundw
        case rel => exact ⟨n + 1, by omega, by go_num, HR2.out⟩
        case measure => simp [intOf]; omega
      · go_wp2
        go_ret
        obtain ⟨D', hres, habs, _⟩ := HREL.out
        exact ⟨rfl, D', hres, by rw [habs, show min 8 (L - 8 * line) = n by omega]⟩

def Abs.settles (A : Abs) : List Nat → Abs
  | [] => A
  | k :: r => (A.settle k).settles r
def Abs.fence (A : Abs) : Abs := { A.step.settles A.marked with marked := [] }
theorem settles_snoc (k : Nat) : ∀ (l : List Nat) (A : Abs), A.settles (l ++ [k]) = (A.settles l).settle k
  | [], _ => rfl
  | x :: r, A => settles_snoc k r (A.settle x)
theorem settle_marked (A : Abs) (k : Nat) : (A.settle k).marked = A.marked := by
  unfold Abs.settle
  split
  · rfl
  · split <;> rfl
theorem settles_ok : ∀ (l : List Nat) {M : List Nat} {A : Abs}, A.OkM (l ++ M) → (A.settles l).OkM M
  | [], _, _, h => h
  | _ :: r, _, _, h => settles_ok r (settle_ok h)
theorem fence_ok {A : Abs} (h : A.Ok) (hs : A.steps + 1 < 100000000000) : A.fence.Ok := by
  have h1 : A.step.OkM (A.marked ++ []) := by rw [List.append_nil]; exact step_ok h hs
  have h2 := settles_ok A.marked h1
  exact ⟨h2.keys, h2.ent, h2.mk0, h2.mk1, h2.mk2, h2.size, h2.cnt, h2.few, h2.fuse⟩

def FenceRel (w : World) (a : Nat) (D : Dev) (n : Nat) (wr : World) : Prop :=
  ∃ D' : Dev, Res w a D wr D' ∧ D'.abs = D.abs.step.settles (D.marked.take n) ∧ D'.marked = D.marked ∧ D'.mka = D.mka ∧ D'.mkc = D.mkc

theorem fence_step {wr : World} {n k : Nat} (ok : D.abs.Ok) (hs : D.steps + 1 < 100000000000) (h : FenceRel w a D n wr) (hn : n < D.marked.length) (hk : D.marked[n] = k) :
    Calls Tryz.prog 182 #[.pointer (some ⟨a, 0, none⟩), .int .i64 (k : Int)] wr fun r w' => r = .returned (.tuple #[]) ∧ FenceRel w a D (n + 1) w' := by
  obtain ⟨D', hres, habs, h1, h2, h3⟩ := h
  have hd : D.marked.drop n = k :: D.marked.drop (n + 1) := by rw [List.drop_eq_getElem_cons hn, hk]
  have ok' : D'.abs.OkM (k :: D.marked.drop (n + 1)) := by
    rw [habs, ← hd]
    refine settles_ok _ ?_
    rw [List.take_append_drop]
    exact step_ok ok hs
  refine (settle_any hres.rep k ok').mono fun r w' ⟨hr, D2, hres2, habs2, e1, e2, e3⟩ => ⟨hr, D2, hres.trans hres2, ?_, e3.trans h1, e1.trans h2, e2.trans h3⟩
  rw [habs2, habs, List.take_add_one, List.getElem?_eq_getElem hn, hk, Option.toList_some, settles_snoc]

theorem fence_cell {wr : World} {n k g : Nat} (h : FenceRel w a D n wr) (hn : n < D.marked.length) (hk : D.marked[n] = k) (hg : D.mka = some ⟨g, 0, none⟩) : wr.cell? ⟨g, n, none⟩ = some (.int .i64 (k : Int)) := by
  obtain ⟨D', hres, habs, h1, h2, h3⟩ := h
  rcases hres.rep.mrk.2 with ⟨e, h0⟩ | ⟨g', cap, cur, e, _, hb, _, _, hsz, ht⟩
  · rw [h1] at h0; omega
  · simp only [Dev.mkv, h2, hg] at e
    injection e with e
    injection e with e
    injection e with e
    subst e
    rw [blk_cell hb]
    have := congrArg (·[n]?) ht
    simp only [h1, Nat.mul_one, i64s] at this
    rw [List.getElem?_take, if_pos hn, List.getElem?_map, List.getElem?_eq_getElem hn, hk] at this
    rw [← Array.getElem?_toList]
    exact this
theorem fence_c6 {wr : World} {n : Nat} (h : FenceRel w a D n wr) : wr.cell? ⟨a, 6, none⟩ = some (.slice D.mka D.marked.length D.mkc) ∧ wr.frozen? ⟨a, 6, none⟩ = false := by
  obtain ⟨D', hres, habs, h1, h2, h3⟩ := h
  rw [hres.rep.c6, h1, h2, h3]
  exact ⟨rfl, hres.rep.frozen 6⟩

theorem own_len (A : Option Addr) (n m c : Nat) : (Value.slice A n c).ownBlock = (Value.slice A m c).ownBlock := by cases A <;> rfl

/-- the marks are gone -/
theorem unmark_res (h : Rep w a D) : Res w a D (w.setCell ⟨a, 6, none⟩ (.slice D.mka 0 D.mkc)) { D with marked := [] } := by
  have hm : w.ownsRow 0 3 1 (.slice D.mka 0 D.mkc) 0 [] := by
    refine ⟨by simp, ?_⟩
    rcases h.mrk.2 with ⟨e, h0⟩ | ⟨g', cap, cur, e, hx, hb, h1, h2, hsz, ht⟩
    · left
      simp only [Dev.mkv] at e
      injection e with e1 e2 e3
      rw [e1, e3]
      exact ⟨rfl, rfl⟩
    · right
      simp only [Dev.mkv] at e
      injection e with e1 e2 e3
      exact ⟨g', cap, cur, by rw [e1, e3], hx, hb, by omega, h2, hsz, by simp⟩
  have hnm : ∀ g, (Value.slice D.mka 0 D.mkc).ownBlock = some g → g ≠ a := fun g hg e => h.ne_mkv (by
    subst e
    rw [← hg]
    exact own_len _ _ _ _)
  refine ⟨⟨?_, ?_, ?_, ?_, ?_, h.nodup, h.keys, h.stamp⟩, (Off.refl _ _).setCell (fun _ => .inl rfl) _, ?_⟩
  · rw [blk_set h.dev 6 _]
    simp [Dev.cells]
  · exact (Below.heap_setCell _ _ _ _ h.ne_wb.symm).trans h.wds
  · exact (Below.heap_setCell _ _ _ _ h.ne_mb.symm).trans h.map
  · exact fun e he => lies_keep (h.ent e he) (Below.heap_setCell _ _ _ _ (h.ne_ent he).symm)
  · exact row_keep hm (fun g hg => Below.heap_setCell _ _ _ _ (hnm g hg))
  · rintro k (rfl | rfl | rfl | hk | hk)
    · exact .inl (.inl rfl)
    · exact .inl (.inr (.inl rfl))
    · exact .inl (.inr (.inr (.inl rfl)))
    · exact .inl (.inr (.inr (.inr (.inl hk))))
    · exact .inl (.inr (.inr (.inr (.inr ((own_len _ _ _ _).trans hk)))))

theorem fence_down (h : Rep w a D) (hd : D.down = true) : Calls Tryz.prog 168 #[.pointer (some ⟨a, 0, none⟩)] w fun r w' => r = .returned (.bool false) ∧ w = w' := by
  have HS := Lib.hid (step_no h hd)
  clear h hd
  go_enter Tryz.func168, Tryz.ntmps168
  go_wp2_with (go_at_call 137; refine HS.out.mono ?_; rintro e w' ⟨rfl, rfl⟩)
  go_ret
  exact ⟨rfl, rfl⟩

theorem fence_end {wr : World} (h : FenceRel w a D D.marked.length wr) : ∃ D', Res w a D (wr.setCell ⟨a, 6, none⟩ (.slice D.mka 0 D.mkc)) D' ∧ D'.abs = D.abs.fence := by
  obtain ⟨D', hres, habs, h1, h2, h3⟩ := h
  have := unmark_res hres.rep
  rw [h2, h3] at this
  refine ⟨_, hres.trans this, ?_⟩
  rw [List.take_length] at habs
  unfold Abs.fence
  rw [show D.abs.marked = D.marked from rfl, ← habs]
  rfl

set_option maxHeartbeats 1600000 in
set_option maxRecDepth 100000 in
theorem fence_yes (h : Rep w a D) (ok : D.abs.Ok) (hd : D.abs.down = false) (hs : D.steps + 1 < 100000000000) :
    Calls Tryz.prog 168 #[.pointer (some ⟨a, 0, none⟩)] w fun r w' => r = .returned (.bool true) ∧ ∃ D', Res w a D w' D' ∧ D'.abs = D.abs.fence := by
  have HS := Lib.hid (step_yes h hd (by omega) ok.fuse)
  have hml : D.marked.length ≤ 4194304 := ok.marked_le
  have HF := Lib.hid (fun wr n k (x : FenceRel w a D n wr) => fence_step (k := k) ok hs x)
  have HE := Lib.hid (fun wr (x : FenceRel w a D D.marked.length wr) => fence_end x)
  have H6 := Lib.hid (fun wr n (x : FenceRel w a D n wr) => fence_c6 x)
  have HC := Lib.hid (fun wr n k g (x : FenceRel w a D n wr) => fence_cell (k := k) (g := g) x)
  rcases h.mrk.2 with ⟨e, h0⟩ | ⟨g, cap, cur, e, _, _, hcap, _⟩
  · simp only [Dev.mkv] at e
    injection e with e1 e2 e3
    rw [e1, e2, e3] at H6
    rw [e1, e3] at HE
    have HM := Lib.hid e2
    have H := Lib.hid h
    clear h hd ok e1 e2 h0
    go_enter Tryz.func168, Tryz.ntmps168
    go_wp2_with (go_at_call 137; refine HS.out.mono ?_; rintro e w1 ⟨rfl, hr1, ho1, hz1⟩
                 have hrel : FenceRel w a D 0 w1 := ⟨D.stepped, step_res hr1 ho1, rfl, rfl, rfl, rfl⟩
                 have k6 := (H6.out _ _ hrel).1
                 have f6 := (H6.out _ _ hrel).2
                 have HR1 := Lib.hid hrel
                 clear hr1 ho1 hz1 hrel)
    go_loopw [15] (fun i wr => i = .int .i64 0 ∧ wr = w1) (fun _ _ => 0)
    case atStart => exact ⟨rfl, rfl⟩
    case round =>
      obtain ⟨rfl, rfl⟩ := hrel
      go_wp2
      go_ret
      exact ⟨rfl, HE.out _ (by rw [HM.out]; exact HR1.out)⟩
  · simp only [Dev.mkv] at e
    injection e with e1 e2 e3
    rw [e1, e3] at HE H6
    have HG := Lib.hid e1
    have H := Lib.hid h
    clear h hd ok e1 e2
    obtain ⟨M, hM⟩ : ∃ M, M = D.marked := ⟨_, rfl⟩
    rw [← hM] at HF HE H6 HC hml hcap
    have HM := Lib.hid hM
    clear hM
    go_enter Tryz.func168, Tryz.ntmps168
    go_wp2_with (go_at_call 137; refine HS.out.mono ?_; rintro e w1 ⟨rfl, hr1, ho1, hz1⟩
                 have hrel : FenceRel w a D 0 w1 := ⟨D.stepped, step_res hr1 ho1, rfl, rfl, rfl, rfl⟩
                 have k6 := (H6.out _ _ hrel).1
                 have HR1 := Lib.hid hrel
                 clear hr1 ho1 hz1 hrel)
    go_loopw [15] (fun i wr => ∃ n : Nat, n ≤ M.length ∧ i = .int .i64 (n : Int) ∧ FenceRel w a D n wr) (fun i _ => M.length - (intOf i).toNat)
    case atStart => exact ⟨0, Nat.zero_le _, rfl, HR1.out⟩
    case round =>
      obtain ⟨n, hn, rfl, hrel⟩ := hrel
      have j6 := (H6.out _ _ hrel).1
      have f6 := (H6.out _ _ hrel).2
      by_cases hlt : n < M.length
      · have hce := HC.out _ _ M[n] g hrel hlt rfl HG.out
        have HX := Lib.hid (HF.out _ _ M[n] hrel hlt rfl)
        clear hrel
        go_wp2_with (go_at_call 182; refine HX.out.mono ?_; rintro e w2 ⟨rfl, hr2⟩; have HR2 := Lib.hid hr2; clear hr2)
        go_roundw
        case rel => exact ⟨n + 1, by omega, by go_num, HR2.out⟩
        case measure => simp [intOf]; omega
      · have hnn : n = M.length := by omega
        rw [hnn] at hrel
        have HREL := Lib.hid hrel
        clear hrel hnn
        go_wp2
        go_ret
        exact ⟨rfl, HE.out _ HREL.out⟩
end
end Pm
end Go.Proofs.YtilolepbfmcbgaaGreatDoor
/- The device's May and Lasting. -/
namespace Go.Proofs.YtilolepbfmcbgaaGreatDoor
open Go.RowKit Go.MapKept
namespace Pm

def Abs.may (A : Abs) (k : Nat) : List Int :=
  match pget A.pend k with
  | some (vs, _) => vs
  | none => [A.words[k]?.getD 0]
def Abs.lasting (A : Abs) (k : Nat) : Int := (A.may k).headD 0

/-- a slice of the call's own, with these words -/
def Got (w w' : World) (l : List Int) (r : Ending) : Prop :=
  ∃ v, r = .returned v ∧ w'.ownsRow w.heap.size 121 1 v l.length (u64s l) ∧ Off (fun _ => False) w w'

theorem block_of_add (a : Addr) (n : Nat) : (a.add n).block = a.block := by unfold Addr.add; split <;> rfl
theorem oneCell_u64s (l : List Int) : ∀ u ∈ u64s l, u.oneCell' = true := by
  intro u hu
  obtain ⟨x, _, rfl⟩ := List.mem_map.1 hu
  rfl
theorem row_base {w : World} {b b' : Nat} {e : TypeId} {size n : Nat} {v : Value} {xs : List Value} (h : w.ownsRow b e size v n xs) (hb : b' ≤ b) : w.ownsRow b' e size v n xs := by
  refine ⟨h.1, ?_⟩
  rcases h.2 with h2 | ⟨g, cap, cur, e, hg, r⟩
  · exact .inl h2
  · exact .inr ⟨g, cap, cur, e, Nat.le_trans hb hg, r⟩

section
variable {w : World} {a : Nat} {D : Dev}

set_option maxHeartbeats 800000 in
set_option maxRecDepth 100000 in
theorem clone_any (ad : Addr) (c : Nat) (l : List Int) (hb : ad.block < w.heap.size) (hl : l.length < 1000000000000) (hc : ∀ j u, (u64s l)[j]? = some u → w.cell? (ad.add j) = some u) :
    Calls Tryz.prog 119 #[.slice (some ad) l.length c] w fun r w' => Got w w' l r := by
  obtain ⟨i0, hi0, hz0, hz1, hz2⟩ := info_parts u64_info
  have hq : ∀ W : World, (binOp .eql 22 (.slice (some ad) l.length c) (.slice none 0 0)).run Tryz.prog W = .ok (.bool false) W := fun W => Lib.run_eql_slice_nil W _ _ _ _ _ _ _ Tryz.underlying22
  have hown : (w.alloc (.cells #[] 121)).ownsRow w.heap.size 121 1 (.slice (some ⟨w.heap.size, 0, none⟩) 0 0) 0 [] :=
    ⟨by simp, .inr ⟨w.heap.size, 0, #[], rfl, Nat.le_refl _, (heap_alloc w _).1, Nat.le_refl _, by unfold maxLen; omega, rfl, rfl⟩⟩
  have HO := Lib.hid hown
  have hc2 : ∀ j u, (u64s l)[j]? = some u → (w.alloc (.cells #[] 121)).cell? (ad.add j) = some u := fun j u hu => by
    rw [World.cell?_of_block (w := w) (Below.heap_alloc _ _ _ (by rw [block_of_add]; exact hb))]
    exact hc j u hu
  have HC := Lib.hid hc2
  clear hc hc2 hown
  go_enter Tryz.func119, Tryz.ntmps119
  go_wp2_with (at_builtin; refine wpList_append_own_at _ rfl (.tmp 5) (.tmp 6) 22 rfl w.heap.size 121 i0 (.int .u64 0) 1 8 Tryz.underlying22 hi0 hz0 hz1 hz2 rfl (by decide) (.slice (some ⟨w.heap.size, 0, none⟩) 0 0) 0 [] rfl HO.out ad l.length c (u64s l) rfl (by simp [u64s]) HC.out (oneCell_u64s l) (by unfold maxLen; omega) (by omega) (by simp) ?_
               intro v' w2 hown2 hgr hnil hloc
               have HO2 := Lib.hid hown2
               have HG := Lib.hid hgr
               clear hown2 hgr hnil hloc)
  go_ret
  refine ⟨v', rfl, by simpa using HO2.out, ((Off.refl _ _).alloc _).grown HG.out (fun k hk hlt => ?_)⟩
  simp [Value.ownBlock] at hk
  omega

theorem Got.rep {r : Ending} {w' : World} {l : List Int} (h : Rep w a D) (g : Got w w' l r) : Rep w' a D := by
  obtain ⟨v, _, _, ho⟩ := g
  exact h.keep (fun k hk => ho.block k (h.foot_lt hk) id)

theorem may_none (h : Rep w a D) (i : Int) (hi : D.hasB i = false) : Calls Tryz.prog 167 #[.pointer (some ⟨a, 0, none⟩), .int .i64 i] w fun r w' => r = .returned (.slice none 0 0) ∧ w = w' := by
  have hc := has_any h i
  rw [hi] at hc
  have H := Lib.hid hc
  clear hc hi h
  go_enter Tryz.func167, Tryz.ntmps167
  go_wp2_with (go_at_call 136; refine H.out.mono ?_; rintro e w' ⟨rfl, rfl⟩)
  go_ret
  exact ⟨rfl, rfl⟩

set_option maxHeartbeats 800000 in
set_option maxRecDepth 100000 in
theorem may_any (h : Rep w a D) (ok : D.abs.Ok) (k : Nat) (hk : k < D.words.length) : Calls Tryz.prog 167 #[.pointer (some ⟨a, 0, none⟩), .int .i64 (k : Int)] w fun r w' => Got w w' (D.abs.may k) r := by
  have hc := has_any h (k : Int)
  rw [has_yes (by omega) (by omega)] at hc
  have H1 := Lib.hid hc
  have c4 := h.c4
  have c5 := h.c5
  have cw := h.word k hk
  have hlt := h.lt
  have hwl : D.wb < w.heap.size := lt_of_some h.wds
  unfold Abs.may
  cases hg : pget D.abs.pend k with
  | none =>
    have hn : k ∉ D.ents.map Ent.key := by rw [← keys_abs]; exact pget_none.1 hg
    have hl := run_look_none h.map hn true
    simp only [if_true] at hl
    have hgot : Got w (((w.alloc (.cells #[.slice none 0 0, .int .i64 0] 202)).alloc (.cells #[.int .u64 D.words[k]] 121))) [D.abs.words[k]?.getD 0] (.returned (.slice (some ⟨w.heap.size + 1, 0, none⟩) 1 1)) := by
      refine ⟨_, rfl, ⟨by simp [u64s], .inr ⟨w.heap.size + 1, 1, #[.int .u64 D.words[k]], rfl, by omega, ?_, Nat.le_refl _, by unfold maxLen; omega, rfl, ?_⟩⟩, ((Off.refl _ _).alloc _).alloc _⟩
      · have := (heap_alloc (w.alloc (.cells #[.slice none 0 0, .int .i64 0] 202)) (.cells #[.int .u64 D.words[k]] 121)).1
        rw [World.size_alloc] at this
        exact this
      · simp [u64s, Dev.abs, List.getElem?_eq_getElem hk]
    have HG := Lib.hid hgot
    clear hc h ok hg hn hgot
    go_enter Tryz.func167, Tryz.ntmps167
    go_wp2_with (go_at_call 136; refine H1.out.mono ?_; rintro e w' ⟨rfl, rfl⟩)
    go_ret
    exact HG.out
  | some v =>
    obtain ⟨pre, post, e, he, rfl, hv, hm, hn⟩ := ents_of_get hg
    have hent := ok.ent _ (pget_mem hg)
    have hfew := ok.few
    have hcnt := ok.cnt
    simp only [← hv, ← hm] at hent
    have hb : e.vals.length < 1000000000000 := by omega
    obtain ⟨v1, v2⟩ := v
    simp only at hv hm
    subst hv hm
    have hm0 := h.map
    rw [he] at hm0
    have hl := run_look_some hm0 (h.mid_key he).1 true
    simp only [if_true, Ent.val] at hl
    obtain ⟨cs, hcs, r1, r2, r3⟩ := h.ent e (by rw [he]; simp)
    have hel := lt_of_some hcs
    have hcl := clone_any (w := w.alloc (.cells #[.slice (some ⟨e.blk, e.off, none⟩) e.vals.length e.cap, .int .i64 (e.mark : Int)] 202)) ⟨e.blk, e.off, none⟩ e.cap e.vals (by simp; omega) hb (fun j u hj => by
      rw [Addr.add_lit, blk_cell (blk_alloc hcs _), ← hj, ← r3]
      have hjl : j < e.vals.length := by
        have := (List.getElem?_eq_some_iff.1 hj).1
        simpa [u64s] using this
      rw [List.getElem?_take, if_pos hjl, List.getElem?_drop, Array.getElem?_toList])
    have HC := Lib.hid hcl
    clear hc h ok hg hn hm0 hcl hcs r1 r2 r3 he hent
    go_enter Tryz.func167, Tryz.ntmps167
    go_wp2_with (first
      | (go_at_call 136; refine H1.out.mono ?_; rintro e w' ⟨rfl, rfl⟩)
      | (go_at_call 119; refine HC.out.mono ?_; rintro r w2 ⟨v, rfl, hown, hoff⟩; have HO := Lib.hid hown; have HF := Lib.hid hoff; clear hown hoff))
    go_ret
    refine ⟨v, rfl, ?_, ?_⟩
    · have := HO.out
      rw [World.size_alloc] at this
      exact row_base this (by omega)
    · exact ((Off.refl (fun _ => False) w).alloc _).trans HF.out (fun _ _ h => h)
end
end Pm
end Go.Proofs.YtilolepbfmcbgaaGreatDoor
/- A device that the call itself made, through any of its calls: each call's answer and what it leaves, of whatever numbers. -/
namespace Go.Proofs.YtilolepbfmcbgaaGreatDoor
open Go.RowKit Go.MapKept
namespace Pm

/-- the device at block a is A, all its blocks lie from B on, and below B the world is as w0 was -/
def Ses (B : Nat) (w0 w : World) (a : Nat) (A : Abs) : Prop :=
  ∃ D, Rep w a D ∧ D.abs = A ∧ A.Ok ∧ Below B w0 w ∧ (∀ k, Foot a D k → B ≤ k) ∧ B ≤ w.heap.size

def Abs.fresh (n : Nat) : Abs := ⟨0, 0, false, 0, List.replicate n 0, [], []⟩
def Abs.has (A : Abs) (i : Int) : Bool := decide (0 ≤ i) && decide (i < (A.words.length : Int))
def Abs.canStore (A : Abs) (i : Int) : Bool := A.has i && !A.down
def Abs.storeAt (A : Abs) (i x : Int) : Abs := if A.canStore i then A.store i.toNat x else A
def Abs.canFlush (A : Abs) (i : Int) : Bool := decide (0 ≤ i) && decide (i < ((A.words.length + 7) / 8 : Nat)) && !A.down
def Abs.flushAt (A : Abs) (i : Int) : Abs := if A.canFlush i then A.flush i.toNat else A
def Abs.fenceAt (A : Abs) : Abs := if A.down then A else A.fence

theorem fresh_ok (n : Nat) (hn : n ≤ 4194304) : (Abs.fresh n).Ok := by
  refine ⟨by simp [Abs.fresh], by simp [Abs.fresh], by simp [Abs.fresh], by simp [Abs.fresh], by simp [Abs.fresh], ?_, Nat.le_refl _, by simp [Abs.fresh], by simp [Abs.fresh]⟩
  simpa [Abs.fresh] using hn

section
variable {B a : Nat} {w0 w w' : World} {A : Abs}

theorem Ses.ok (h : Ses B w0 w a A) : A.Ok := by
  obtain ⟨D, _, _, h, _⟩ := h; exact h
theorem Ses.below (h : Ses B w0 w a A) : Below B w0 w := by
  obtain ⟨D, _, _, _, h, _⟩ := h; exact h
theorem Ses.size (h : Ses B w0 w a A) : B ≤ w.heap.size := by
  obtain ⟨D, _, _, _, _, _, h⟩ := h; exact h

/-- one call's step -/
theorem ses_step {D D' : Dev} {A' : Abs} (hb : Below B w0 w) (hf : ∀ k, Foot a D k → B ≤ k) (hs : B ≤ w.heap.size) (hr : Res w a D w' D') (ha : D'.abs = A') (hok : A'.Ok) : Ses B w0 w' a A' := by
  refine ⟨D', hr.rep, ha, hok, hb.trans (hr.off.below hs hf), fun k hk => ?_, Nat.le_trans hs hr.off.size⟩
  rcases hr.foot k hk with h | h
  · exact hf k h
  · omega

theorem ses_new (n : Int) (m : Nat) (hm : (m : Int) = min (max n 0) 4194304) (w : World) : Calls Tryz.prog 166 #[.int .i64 n] w fun r w' =>
    r = .returned (.pointer (some ⟨w.heap.size + 2, 0, none⟩)) ∧ Ses w.heap.size w w' (w.heap.size + 2) (Abs.fresh m) := by
  refine (new_any w n m hm).mono fun r w' ⟨hr, hrep, hb, hz⟩ => ⟨hr, Dev.fresh m w.heap.size, hrep, rfl, fresh_ok m (by omega), hb, ?_, hb.size⟩
  rintro k (rfl | rfl | rfl | hk | hk)
  · omega
  · exact Nat.le_refl _
  · show w.heap.size ≤ w.heap.size + 1; omega
  · simp [Dev.fresh] at hk
  · simp [Dev.fresh, Dev.mkv, Value.ownBlock] at hk

theorem ses_len (h : Ses B w0 w a A) : Calls Tryz.prog 123 #[.pointer (some ⟨a, 0, none⟩)] w fun r w' => r = .returned (.int .i64 (A.words.length : Int)) ∧ w = w' := by
  obtain ⟨D, hrep, rfl, _⟩ := h
  exact len_any hrep

theorem ses_load (h : Ses B w0 w a A) (i : Int) : Calls Tryz.prog 120 #[.pointer (some ⟨a, 0, none⟩), .int .i64 i] w fun r w' => r = .returned (.int .u64 (if A.has i then A.words[i.toNat]?.getD 0 else 0)) ∧ w = w' := by
  obtain ⟨D, hrep, rfl, _⟩ := h
  cases hi : D.abs.has i with
  | false => exact load_no hrep i hi
  | true =>
    simp only [Abs.has, Bool.and_eq_true, decide_eq_true_eq] at hi
    obtain ⟨k, rfl⟩ := Int.eq_ofNat_of_zero_le hi.1
    have hk : k < D.words.length := by have := hi.2; simp only [Dev.abs] at this; omega
    have := load_yes hrep k hk
    simpa [Dev.abs, List.getElem?_eq_getElem hk] using this

theorem ses_store (h : Ses B w0 w a A) (i x : Int) (hs : A.steps + 1 < 100000000000) : Calls Tryz.prog 95 #[.pointer (some ⟨a, 0, none⟩), .int .i64 i, .int .u64 x] w fun r w' =>
    r = .returned (.bool (A.canStore i)) ∧ Ses B w0 w' a (A.storeAt i x) := by
  have hses := h
  obtain ⟨D, hrep, rfl, hok, hb, hf, hz⟩ := h
  unfold Abs.storeAt
  cases hi : D.abs.has i with
  | false =>
    have hc : D.abs.canStore i = false := by simp [Abs.canStore, hi]
    simp only [hc]
    refine (store_none hrep i x hi).mono fun r w' ⟨hr, hw⟩ => ⟨hr, ?_⟩
    subst hw; exact hses
  | true =>
    cases hd : D.abs.down with
    | true =>
      have hc : D.abs.canStore i = false := by simp [Abs.canStore, hd]
      simp only [hc]
      refine (store_down hrep i x hd).mono fun r w' ⟨hr, hw⟩ => ⟨hr, ?_⟩
      subst hw; exact hses
    | false =>
      have hc : D.abs.canStore i = true := by simp [Abs.canStore, hi, hd]
      simp only [hc, if_true]
      simp only [Abs.has, Bool.and_eq_true, decide_eq_true_eq] at hi
      obtain ⟨k, rfl⟩ := Int.eq_ofNat_of_zero_le hi.1
      rw [Int.toNat_natCast]
      refine (store_any hrep hok hd k x (by omega)).mono fun r w' ⟨hr, D', hres, ha⟩ => ⟨hr, ses_step hb hf hz hres ha (store_ok hok (by omega) x hs)⟩

theorem ses_flush (h : Ses B w0 w a A) (i : Int) (hs : A.steps + 1 < 100000000000) : Calls Tryz.prog 97 #[.pointer (some ⟨a, 0, none⟩), .int .i64 i] w fun r w' =>
    r = .returned (.bool (A.canFlush i)) ∧ Ses B w0 w' a (A.flushAt i) := by
  have hses := h
  obtain ⟨D, hrep, rfl, hok, hb, hf, hz⟩ := h
  have hsz : D.words.length ≤ 4194304 := hok.size
  unfold Abs.flushAt
  rcases Int.lt_or_le i 0 with hi | hi
  · have hc : D.abs.canFlush i = false := by simp [Abs.canFlush]; omega
    simp only [hc]
    refine (flush_neg i hi).mono fun r w' ⟨hr, hw⟩ => ⟨hr, ?_⟩
    subst hw; exact hses
  · obtain ⟨k, rfl⟩ := Int.eq_ofNat_of_zero_le hi
    rcases Nat.lt_or_ge k ((D.words.length + 7) / 8) with hk | hk
    · cases hd : D.abs.down with
      | true =>
        have hc : D.abs.canFlush (k : Int) = false := by simp [Abs.canFlush, hd]
        simp only [hc]
        refine (flush_down hrep k hk hsz hd).mono fun r w' ⟨hr, hw⟩ => ⟨hr, ?_⟩
        subst hw; exact hses
      | false =>
        have hc : D.abs.canFlush (k : Int) = true := by
          simp only [Abs.canFlush, hd, Bool.not_false, Bool.and_true, Bool.and_eq_true, decide_eq_true_eq]
          exact ⟨hi, by show (k : Int) < ((D.words.length + 7) / 8 : Nat); omega⟩
        simp only [hc, if_true]
        rw [Int.toNat_natCast]
        exact (flush_yes hrep hok hd k (by omega) hs).mono fun r w' ⟨hr, D', hres, ha⟩ => ⟨hr, ses_step hb hf hz hres ha (flush_ok hok k hs)⟩
    · have hc : D.abs.canFlush (k : Int) = false := by
        simp only [Abs.canFlush, Bool.and_eq_false_iff, decide_eq_false_iff_not]
        exact .inl (.inr (by show ¬ (k : Int) < ((D.words.length + 7) / 8 : Nat); omega))
      simp only [hc]
      refine (flush_far hrep k hk hsz).mono fun r w' ⟨hr, hw⟩ => ⟨hr, ?_⟩
      subst hw; exact hses

theorem ses_fence (h : Ses B w0 w a A) (hs : A.steps + 1 < 100000000000) : Calls Tryz.prog 168 #[.pointer (some ⟨a, 0, none⟩)] w fun r w' =>
    r = .returned (.bool (!A.down)) ∧ Ses B w0 w' a A.fenceAt := by
  have hses := h
  obtain ⟨D, hrep, rfl, hok, hb, hf, hz⟩ := h
  unfold Abs.fenceAt
  cases hd : D.abs.down with
  | true =>
    refine (fence_down hrep hd).mono fun r w' ⟨hr, hw⟩ => ⟨hr, ?_⟩
    subst hw; exact hses
  | false =>
    exact (fence_yes hrep hok hd hs).mono fun r w' ⟨hr, D', hres, ha⟩ => ⟨hr, ses_step hb hf hz hres ha (fence_ok hok hs)⟩

/-- a slice of words that the call made: its value, and its cells -/
def Words (B : Nat) (w : World) (v : Value) (l : List Int) : Prop := w.ownsRow B 121 1 v l.length (u64s l)

theorem ses_may (h : Ses B w0 w a A) (i : Int) : Calls Tryz.prog 167 #[.pointer (some ⟨a, 0, none⟩), .int .i64 i] w fun r w' =>
    ∃ v, r = .returned v ∧ Words w.heap.size w' v (if A.has i then A.may i.toNat else []) ∧ Ses B w0 w' a A ∧ Off (fun _ => False) w w' := by
  have hses := h
  obtain ⟨D, hrep, rfl, hok, hb, hf, hz⟩ := h
  cases hi : D.abs.has i with
  | false =>
    refine (may_none hrep i hi).mono fun r w' ⟨hr, hw⟩ => ⟨_, hr, ?_, ?_, ?_⟩
    · exact ⟨by simp [u64s], .inl ⟨rfl, rfl⟩⟩
    · subst hw; exact hses
    · subst hw; exact Off.refl _ _
  | true =>
    simp only [Abs.has, Bool.and_eq_true, decide_eq_true_eq] at hi
    obtain ⟨k, rfl⟩ := Int.eq_ofNat_of_zero_le hi.1
    have hk : k < D.words.length := by have := hi.2; simp only [Dev.abs] at this; omega
    refine (may_any hrep hok k hk).mono fun r w' hg => ?_
    have hrep2 := hg.rep hrep
    obtain ⟨v, hr, hw, ho⟩ := hg
    refine ⟨v, hr, by simpa [Words] using hw, ⟨D, hrep2, rfl, hok, hb.trans (ho.below hz (fun _ h => h.elim)), hf, Nat.le_trans hz ho.size⟩, ho⟩
end
end Pm
end Go.Proofs.YtilolepbfmcbgaaGreatDoor
/- The chapter's example, as the laws of layer 1 ask it. -/
namespace Go.Proofs.YtilolepbfmcbgaaGreatDoor
open Go.RowKit Go.MapKept
namespace Pm

def LA0 : Abs := Abs.fresh 8
def LA1 : Abs := LA0.storeAt 0 5
def LA2 : Abs := LA1.storeAt 0 6
def LA3 : Abs := LA2.flushAt 0
def LA4 : Abs := LA3.fenceAt
theorem la_s0 : LA0.canStore 0 = true := by decide
theorem la_s1 : LA1.canStore 0 = true := by decide
theorem la_m2 : (if LA2.has 0 then LA2.may (0 : Int).toNat else []) = [0, 5, 6] := by decide
theorem la_l2 : (if LA2.has 0 then LA2.words[(0 : Int).toNat]?.getD 0 else 0) = 6 := by decide
theorem la_f2 : LA2.canFlush 0 = true := by decide
theorem la_d3 : (!LA3.down) = true := by decide
theorem la_m4 : (if LA4.has 0 then LA4.may (0 : Int).toNat else []) = [6] := by decide

theorem words_cell {B : Nat} {w : World} {g c n i : Nat} {l : List Int} (h : Words B w (.slice (some ⟨g, 0, none⟩) n c) l) (hi : i < l.length) : w.cell? ⟨g, i, none⟩ = some (.int .u64 l[i]) := by
  rcases h.2 with ⟨e, _⟩ | ⟨g', cap, cur, e, _, hb, _, _, hsz, ht⟩
  · cases e
  · injection e with e
    injection e with e
    injection e with e
    subst e
    rw [blk_cell hb]
    have := congrArg (·[i]?) ht
    simp only [Nat.mul_one, u64s] at this
    rw [List.getElem?_take, if_pos hi, List.getElem?_map, List.getElem?_eq_getElem hi] at this
    rw [← Array.getElem?_toList]
    exact this

set_option maxHeartbeats 1600000 in
set_option maxRecDepth 100000 in
theorem lives_any (w : World) : Calls Tryz.prog 146 #[] w fun r w' => r = .returned (.bool true) ∧ Below w.heap.size w w' := by
  have hn := ses_new 8 8 (by decide) w
  have HN := Lib.hid hn
  clear hn
  go_enter Tryz.func146, Tryz.ntmps146
  go_wp2_with fail
  refine HN.out.mono ?_
  rintro r w1 ⟨rfl, h1⟩
  have H1 := Lib.hid (show Ses w.heap.size w w1 (w.heap.size + 2) LA0 from h1)
  clear h1
  go_wp2_with fail
  have hc := ses_store H1.out 0 5 (by decide)
  rw [la_s0] at hc
  refine hc.mono ?_
  clear hc
  rintro r w2 ⟨rfl, h2⟩
  have H2 := Lib.hid (show Ses w.heap.size w w2 (w.heap.size + 2) LA1 from h2)
  clear h2
  go_wp2_with fail
  have hc := ses_store H2.out 0 6 (by decide)
  rw [la_s1] at hc
  refine hc.mono ?_
  clear hc
  rintro r w3 ⟨rfl, h3⟩
  have H3 := Lib.hid (show Ses w.heap.size w w3 (w.heap.size + 2) LA2 from h3)
  clear h3
  go_wp2_with fail
  have hc := ses_may H3.out 0
  rw [la_m2] at hc
  refine hc.mono ?_
  clear hc
  rintro r w4 ⟨v4, rfl, hw4, h4, _⟩
  obtain ⟨g4, c4, rfl⟩ := row_form hw4 (by decide)
  have H4 := Lib.hid h4
  clear h4 hw4
  go_wp2_with fail
  have hc := ses_load H4.out 0
  rw [la_l2] at hc
  refine hc.mono ?_
  clear hc
  rintro r w5 ⟨rfl, rfl⟩
  go_wp2_with fail
  have hc := ses_flush H4.out 0 (by decide)
  rw [la_f2] at hc
  refine hc.mono ?_
  clear hc
  rintro r w6 ⟨rfl, h6⟩
  have H6 := Lib.hid (show Ses w.heap.size w w6 (w.heap.size + 2) LA3 from h6)
  clear h6
  go_wp2_with fail
  have hc := ses_fence H6.out (by decide)
  rw [la_d3] at hc
  refine hc.mono ?_
  clear hc
  rintro r w7 ⟨rfl, h7⟩
  have H7 := Lib.hid (show Ses w.heap.size w w7 (w.heap.size + 2) LA4 from h7)
  clear h7
  go_wp2_with fail
  have hc := ses_may H7.out 0
  rw [la_m4] at hc
  refine hc.mono ?_
  clear hc
  rintro r w8 ⟨v8, rfl, hw8, h8, _⟩
  obtain ⟨g8, c8, rfl⟩ := row_form hw8 (by decide)
  have H8 := Lib.hid h8
  clear h8 hw8
  go_wp2_with fail
  have hc := ses_may H8.out 0
  rw [la_m4] at hc
  refine hc.mono ?_
  clear hc
  rintro r w9 ⟨v9, rfl, hw9, h9, _⟩
  obtain ⟨g9, c9, rfl⟩ := row_form hw9 (by decide)
  have k9 := words_cell (i := 0) hw9 (by decide)
  simp only [List.getElem_cons_zero] at k9
  have H9 := Lib.hid h9
  clear h9 hw9
  go_wp2
  go_ret
  exact ⟨rfl, H9.out.below⟩
end Pm
end Go.Proofs.YtilolepbfmcbgaaGreatDoor
/- The chapter's example; SuperEncodes and SuperDecodes, walked. -/
namespace Go.Proofs.YtilolepbfmcbgaaGreatDoor
open Go.RowKit Go.MapKept
namespace Sup

theorem nums_ex : nums 10 3 64 = 274878103562 := by decide
theorem may_ex : Geo.may ((10 : Nat) : Int) ((3 : Nat) : Int) ((64 : Nat) : Int) = true := by decide

theorem row_keep {w w' : World} {g : Nat} {l : List Nat} (h : w.rowIs g 121 8 (rowOf l)) (hb : Below w.heap.size w w') : w'.rowIs g 121 8 (rowOf l) := h.of_block (hb.block _ h.lt)

set_option maxHeartbeats 1000000 in
theorem lives_any (w : World) : Calls Tryz.prog 105 #[] w fun r w' => r = .returned (.bool true) ∧ Below w.heap.size w w' := by
  have he : Calls Tryz.prog 145 #[.agg #[.int .i64 10, .int .i64 3, .int .i64 64]] w fun r w' => ∃ g : Nat, w.heap.size ≤ g ∧ r = .returned (.tuple #[.slice (some ⟨g, 0, none⟩) 8 8, .int .i64 0]) ∧ w'.rowIs g 121 8 (rowOf (sb 10 3 64)) ∧ Below w.heap.size w w' := encode_yes w 10 3 64 may_ex
  have HE := Lib.hid he
  have H1 := Lib.hid Pm.lives_any
  have H2 := Lib.hid Crc.lives_any
  have H3 := Lib.hid Pack.lives_any
  have H4 := Lib.hid Geo.lives_any
  clear he
  go_enter Tryz.func105, Tryz.ntmps105
  go_wp2_with fail
  refine HE.out.mono ?_
  rintro e w0 ⟨g, _, rfl, hrow, hb⟩
  have HR0 := Lib.hid hrow
  have HB0 := Lib.hid hb
  clear hrow hb HE
  go_wp2_with fail
  refine (H1.out _).mono ?_
  rintro e w1 ⟨rfl, hb⟩
  have HR1 := Lib.hid (row_keep HR0.out hb)
  have HB1 := Lib.hid (HB0.out.trans (hb.mono HB0.out.size))
  clear hb HR0 HB0
  go_wp2_with fail
  refine (H2.out _).mono ?_
  rintro e w2 ⟨rfl, hb⟩
  have HR2 := Lib.hid (row_keep HR1.out hb)
  have HB2 := Lib.hid (HB1.out.trans (hb.mono HB1.out.size))
  clear hb HR1 HB1
  go_wp2_with fail
  refine (H3.out _).mono ?_
  rintro e w3 ⟨rfl, hb⟩
  have HR3 := Lib.hid (row_keep HR2.out hb)
  have HB3 := Lib.hid (HB2.out.trans (hb.mono HB2.out.size))
  clear hb HR2 HB2
  go_wp2_with fail
  refine (H4.out _).mono ?_
  rintro e w4 ⟨rfl, hb⟩
  have HR4 := Lib.hid (row_keep HR3.out hb)
  have HB4 := Lib.hid (HB3.out.trans (hb.mono HB3.out.size))
  clear hb HR3 HB3
  have hc1 : w4.cell? ⟨g, 1, none⟩ = some (.int .u64 274878103562) := by
    rw [HR4.out.cell (i := 1) (by omega)]
    show some (Value.int .u64 ((nums 10 3 64 : Nat) : Int)) = _
    rw [nums_ex]
    rfl
  go_wp2
  go_ret
  exact ⟨rfl, HB4.out⟩

end Sup
end Go.Proofs.YtilolepbfmcbgaaGreatDoor
/- Words one of whose bits is turned, and that the sums tell it. -/
namespace Go.Proofs.YtilolepbfmcbgaaGreatDoor
open Go.RowKit Go.MapKept
namespace Crc

theorem le_word {x : Nat} (h : x < 18446744073709551616) (r : List Nat) : le (wb x ++ r) = x + 18446744073709551616 * le r := by
  have e : wb x = [x % 256, x / 256 % 256, x / 65536 % 256, x / 16777216 % 256, x / 4294967296 % 256, x / 1099511627776 % 256, x / 281474976710656 % 256, x / 72057594037927936 % 256] := by
    simp [wb, List.range_succ]
  rw [e]
  simp only [List.cons_append, List.nil_append, le]
  omega

theorem word_xor {x : Nat} (h : x < 18446744073709551616) (y : Nat) : x + 18446744073709551616 * y = x ^^^ y * 2 ^ 64 := by
  apply Nat.eq_of_testBit_eq
  intro i
  have e : (x + 18446744073709551616 * y).testBit i = if i < 64 then x.testBit i else y.testBit (i - 64) := by
    rw [Nat.add_comm]
    exact Nat.testBit_two_pow_mul_add y (i := 64) h i
  rw [e, Nat.testBit_xor, Nat.testBit_mul_two_pow]
  by_cases h1 : i < 64
  · simp [h1, Nat.not_le.2 h1]
  · have h2 : x.testBit i = false := Nat.testBit_lt_two_pow (Nat.lt_of_lt_of_le h (Nat.pow_le_pow_right (n := 2) (by omega) (by omega : 64 ≤ i)))
    simp [h1, h2, Nat.not_lt.1 h1]

theorem turned_lt {x t : Nat} (h : x < 18446744073709551616) (ht : t < 64) : x ^^^ 2 ^ t < 18446744073709551616 := Nat.xor_lt_two_pow (n := 64) h (Nat.pow_lt_pow_right (by omega) ht)

/-- one bit of a word turned -/
theorem le_turned (l : List Nat) : ∀ j t, (∀ x ∈ l, x < 18446744073709551616) → j < l.length → t < 64 → le (wflat (l.set j (l[j]?.getD 0 ^^^ 2 ^ t))) = le (wflat l) ^^^ 2 ^ (64 * j + t) := by
  induction l with
  | nil => intro j t _ h; simp at h
  | cons x l ih =>
    intro j t h hj ht
    have hx := h x (List.mem_cons_self ..)
    have e : ∀ (y : Nat) (r : List Nat), wflat (y :: r) = wb y ++ wflat r := fun y r => by simp [wflat]
    cases j with
    | zero =>
      rw [List.set_cons_zero, List.getElem?_cons_zero, Option.getD_some, e, e, le_word hx, le_word (turned_lt hx ht), word_xor hx, word_xor (turned_lt hx ht), Nat.mul_zero, Nat.zero_add, Nat.xor_assoc, Nat.xor_assoc, Nat.xor_comm (2 ^ t)]
    | succ j =>
      rw [List.length_cons] at hj
      have e2 := ih j t (fun y hy => h y (List.mem_cons_of_mem _ hy)) (by omega) ht
      rw [List.set_cons_succ, List.getElem?_cons_succ, e, e, le_word hx, le_word hx, e2, word_xor hx, word_xor hx, Nat.xor_assoc]
      congr 1
      have e3 : 2 ^ (64 * (j + 1) + t) = 2 ^ (64 * j + t) * 2 ^ 64 := by rw [← Nat.pow_add]; congr 1; omega
      rw [e3]
      apply Nat.eq_of_testBit_eq
      intro i
      simp only [Nat.testBit_mul_two_pow, Nat.testBit_xor]
      by_cases h8 : 64 ≤ i <;> simp [h8]

theorem line_turned {l : List Nat} (h : ∀ x ∈ l, x < 18446744073709551616) {j t : Nat} (hj : j < l.length) (ht : t < 64) : Trn (wflat l) (64 * j + t) 1 1 (wflat (l.set j (l[j]?.getD 0 ^^^ 2 ^ t))) :=
  ⟨wflat_byt _, by rw [wflat_len, wflat_len, List.length_set], by decide, by rw [le_turned l j t h hj ht, Nat.one_mul], fun h => by cases h⟩

/-- a word's bit that is turned is told -/
theorem line_told32 {l : List Nat} (h : ∀ x ∈ l, x < 18446744073709551616) {j t : Nat} (hj : j < l.length) (ht : t < 64) : S32 (wflat (l.set j (l[j]?.getD 0 ^^^ 2 ^ t))) ≠ S32 (wflat l) :=
  (line_turned h hj ht).told32 (wflat_byt _) (by decide) (by rw [wflat_len]; omega) (by decide)
end Crc
end Go.Proofs.YtilolepbfmcbgaaGreatDoor
/- A superblock one of whose bits is turned is none; SuperTurned, walked. -/
namespace Go.Proofs.YtilolepbfmcbgaaGreatDoor
open Go.RowKit Go.MapKept
namespace Sup

/-- one bit turned -/
def trn (l : List Nat) (j t : Nat) : List Nat := l.set j (l[j]?.getD 0 ^^^ 2 ^ t)

theorem xor_ne (x t : Nat) : x ^^^ 2 ^ t ≠ x := by
  intro h
  have h1 : (x ^^^ 2 ^ t).testBit t = x.testBit t := by rw [h]
  rw [Nat.testBit_xor, Nat.testBit_two_pow_self] at h1
  cases x.testBit t <;> simp at h1

theorem front_u64 {n m s : Nat} (hn : n < 65536) (hm : m < 65536) (hs : s < 65536) : ∀ x ∈ front n m s, x < 18446744073709551616 := by
  intro x hx
  have h1 := nums_lt hn hm hs
  have h3 := magic_lt
  simp only [front, List.mem_cons, List.not_mem_nil, or_false] at hx
  rcases hx with rfl | rfl | rfl | rfl | rfl | rfl | rfl <;> omega

theorem trn_none {n m s : Nat} (h : Geo.may n m s = true) {j t : Nat} (hj : j < 8) (ht : t < 64) : dec (trn (sb n m s) j t) = none := by
  obtain ⟨h1, h2, h3⟩ := may_lt h
  refine dec_none (fun n' m' s' h' e => ?_)
  have hg : ∀ k, k < 8 → (trn (sb n m s) j t)[k]?.getD 0 = (sb n' m' s')[k]?.getD 0 := fun k _ => by rw [e]
  have hs : ∀ k, k ≠ j → (trn (sb n m s) j t)[k]?.getD 0 = (sb n m s)[k]?.getD 0 := fun k hk => by
    unfold trn
    rw [List.getElem?_set_ne (fun h => hk h.symm)]
  have hj' : (trn (sb n m s) j t)[j]?.getD 0 = (sb n m s)[j]?.getD 0 ^^^ 2 ^ t := by
    unfold trn
    rw [List.getElem?_set_self (by rw [sb_len]; exact hj)]
    rfl
  have hx := hg j hj
  rw [hj'] at hx
  have : j = 1 ∨ j = 7 ∨ (j = 0 ∨ j = 2 ∨ j = 3 ∨ j = 4 ∨ j = 5 ∨ j = 6) := by omega
  rcases this with rfl | rfl | hr
  · have h7 := hg 7 (by omega)
    rw [hs 7 (by omega)] at h7
    have hx1 : nums n m s ^^^ 2 ^ t = nums n' m' s' := hx
    have h71 : sum n m s = sum n' m' s' := h7
    refine Crc.line_told32 (front_u64 h1 h2 h3) (j := 1) (t := t) (by rw [front_len]; omega) ht ?_
    have e2 : (front n m s).set 1 ((front n m s)[1]?.getD 0 ^^^ 2 ^ t) = front n' m' s' := by
      show [magic, nums n m s ^^^ 2 ^ t, 0, 0, 0, 0, 0] = _
      rw [hx1]
      rfl
    rw [e2]
    exact h71.symm
  · have h1' := hg 1 (by omega)
    rw [hs 1 (by omega)] at h1'
    have hx1 : sum n m s ^^^ 2 ^ t = sum n' m' s' := hx
    have h11 : nums n m s = nums n' m' s' := h1'
    have e2 : sum n m s = sum n' m' s' := by
      unfold sum front
      rw [h11]
    exact xor_ne _ _ (hx1.trans e2.symm)
  · refine xor_ne ((sb n m s)[j]?.getD 0) t (hx.trans ?_)
    rcases hr with rfl | rfl | rfl | rfl | rfl | rfl <;> rfl

theorem trn_u64 {n m s : Nat} (hn : n < 65536) (hm : m < 65536) (hs : s < 65536) (j : Nat) {t : Nat} (ht : t < 64) : ∀ x ∈ trn (sb n m s) j t, x < 18446744073709551616 := by
  intro x hx
  rcases List.mem_or_eq_of_mem_set hx with h | rfl
  · exact sb_u64 hn hm hs x h
  · refine Crc.turned_lt ?_ ht
    rcases Nat.lt_or_ge j 8 with h | h
    · rw [List.getElem?_eq_getElem (by rw [sb_len]; exact h)]
      exact sb_u64 hn hm hs _ (List.getElem_mem _)
    · rw [List.getElem?_eq_none (by rw [sb_len]; exact h)]
      decide

theorem row_trn {w : World} {g j t : Nat} {l : List Nat} (hl : l.length = 8) (hj : j < 8) (h : w.rowIs g 121 8 (rowOf l)) : (w.setCell ⟨g, j, none⟩ (.int .u64 ((l[j]?.getD 0 ^^^ 2 ^ t : Nat) : Int))).rowIs g 121 8 (rowOf (trn l j t)) :=
  (h.set j (.int .u64 ((l[j]?.getD 0 ^^^ 2 ^ t : Nat) : Int))).congr (fun i hi => by
    unfold rowOf trn
    by_cases e : i = j
    · subst e
      rw [if_pos rfl, List.getElem?_set_self (by omega)]
      rfl
    · rw [if_neg e, List.getElem?_set_ne (fun h => e h.symm)])

theorem mid_may (n m k : Nat) : Geo.may ((1 + n % 3000 : Nat) : Int) ((1 + m % 3000 : Nat) : Int) ((64 * 2 ^ (k % 3) : Nat) : Int) = true := by
  have hn : n % 3000 < 3000 := Nat.mod_lt _ (by omega)
  have hm : m % 3000 < 3000 := Nat.mod_lt _ (by omega)
  generalize n % 3000 = a at *
  generalize m % 3000 = b at *
  have : k % 3 = 0 ∨ k % 3 = 1 ∨ k % 3 = 2 := by omega
  refine Geo.may_yes ⟨⟨by omega, by omega, ?_⟩, ?_⟩
  · unfold Geo.Sz
    rcases this with h | h | h <;> rw [h] <;> decide
  · unfold Geo.fin Geo.bkAt Geo.bmAt Geo.lines
    rcases this with h | h | h <;> rw [h] <;> omega

theorem wrap_pow {t : Nat} (ht : t < 64) : IntKind.wrap .u64 (2 ^ t : Int) = (2 ^ t : Int) := by
  have h2 : 2 ^ t < 18446744073709551616 := Nat.pow_lt_pow_right (n := 64) (by omega) ht
  have h1 : (2 : Int) ^ t = ((2 ^ t : Nat) : Int) := by simp
  rw [h1]
  clear h1
  generalize 2 ^ t = y at *
  rw [IntKind.wrap_u64]
  omega

end Sup
end Go.Proofs.YtilolepbfmcbgaaGreatDoor
/- Read, walked: of a device that the call made. -/
namespace Go.Proofs.YtilolepbfmcbgaaGreatDoor
open Go.RowKit Go.MapKept
namespace Sup

theorem ses_keep {B a : Nat} {w0 w w' : World} {A : Pm.Abs} (h : Pm.Ses B w0 w a A) (hb : Below w.heap.size w w') : Pm.Ses B w0 w' a A := by
  obtain ⟨D, hrep, e, ok, hbel, hf, hz⟩ := h
  exact ⟨D, hrep.keep (fun k hk => hb.block k (hrep.foot_lt hk)), e, ok, hbel.trans (hb.mono hz), hf, Nat.le_trans hz hb.size⟩

/-- a device's first words -/
def rd (A : Pm.Abs) : List Nat := (List.range 8).map fun i => (A.words[i]?.getD 0).toNat
theorem rd_len (A : Pm.Abs) : (rd A).length = 8 := by simp [rd]
theorem rd_get (A : Pm.Abs) {k : Nat} (hk : k < 8) : (rd A)[k]?.getD 0 = (A.words[k]?.getD 0).toNat := by
  unfold rd
  rw [List.getElem?_map, List.getElem?_range hk]
  rfl

/-- whose a device is -/
def ron (l : List Nat) (L : Nat) : Option (Nat × Nat × Nat) :=
  match dec l with
  | some (n, m, s) => if Geo.fin n m s = (L : Int) then some (n, m, s) else none
  | none => none

/-- all are words -/
def U64 (l : List Int) : Prop := ∀ x ∈ l, 0 ≤ x ∧ x < 18446744073709551616
theorem U64.get {l : List Int} (h : U64 l) (k : Nat) : 0 ≤ l[k]?.getD 0 ∧ l[k]?.getD 0 < 18446744073709551616 := by
  rcases Nat.lt_or_ge k l.length with h1 | h1
  · rw [List.getElem?_eq_getElem h1]
    exact h _ (List.getElem_mem h1)
  · rw [List.getElem?_eq_none h1]
    simp

theorem rd_u64 {A : Pm.Abs} (h : U64 A.words) : ∀ x ∈ rd A, x < 18446744073709551616 := by
  intro x hx
  obtain ⟨k, _, rfl⟩ := List.mem_map.1 hx
  have := h.get k
  omega

theorem load_any {B a : Nat} {w0 w : World} {A : Pm.Abs} (h : Pm.Ses B w0 w a A) (hu : U64 A.words) (k : Nat) (hk : k < 8) : Calls Tryz.prog 120 #[.pointer (some ⟨a, 0, none⟩), .int .i64 (k : Int)] w fun r w' => r = .returned (.int .u64 (((rd A)[k]?.getD 0 : Nat) : Int)) ∧ w = w' := by
  refine (Pm.ses_load h (k : Int)).mono ?_
  rintro r w' ⟨rfl, rfl⟩
  refine ⟨?_, rfl⟩
  have e : (((rd A)[k]?.getD 0 : Nat) : Int) = A.words[k]?.getD 0 := by
    rw [rd_get A hk]
    have := hu.get k
    omega
  rw [e]
  cases hh : A.has (k : Int) with
  | true => simp
  | false =>
    have : A.words.length ≤ k := by
      unfold Pm.Abs.has at hh
      simp at hh
      omega
    rw [List.getElem?_eq_none this]
    simp

/-- the words up to m, noughts behind them -/
def upt (l : List Nat) (m i : Nat) : Value := .int .u64 ((if i < m then l[i]?.getD 0 else 0 : Nat) : Int)
theorem upt_step {l : List Nat} {m : Nat} (j : Nat) : (if j = m then Value.int .u64 ((l[m]?.getD 0 : Nat) : Int) else upt l m j) = upt l (m + 1) j := by
  unfold upt
  by_cases h : j = m
  · subst h
    rw [if_pos rfl, if_pos (by omega)]
  · rw [if_neg h]
    by_cases h2 : j < m
    · rw [if_pos h2, if_pos (by omega)]
    · rw [if_neg h2, if_neg (by omega)]

theorem row_read {w : World} {g : Nat} {t : TypeId} {A : Pm.Abs} (h : w.rowIs g t 8 (upt (rd A) 8)) (hu : U64 A.words) : Pack.Wds w (some ⟨g, 0, none⟩) (rd A) :=
  ⟨rd_u64 hu, by rw [rd_len]; omega, fun j hj => ⟨g, 0, rfl, h.lt, by
    have h8 : j < 8 := by rwa [rd_len] at hj
    rw [Nat.zero_add, h.cell h8]
    unfold upt
    rw [if_pos h8, List.getElem?_eq_getElem hj]
    rfl⟩⟩

theorem zeros_row (w : World) (t : TypeId) (l : List Nat) : (w.alloc (.cells #[.int .u64 0, .int .u64 0, .int .u64 0, .int .u64 0, .int .u64 0, .int .u64 0, .int .u64 0, .int .u64 0] t)).rowIs w.heap.size t 8 (upt l 0) :=
  World.rowIs_alloc w #[.int .u64 0, .int .u64 0, .int .u64 0, .int .u64 0, .int .u64 0, .int .u64 0, .int .u64 0, .int .u64 0] t (upt l 0) (fun i hi => by
    have : i < 8 := hi
    have : i = 0 ∨ i = 1 ∨ i = 2 ∨ i = 3 ∨ i = 4 ∨ i = 5 ∨ i = 6 ∨ i = 7 := by omega
    rcases this with rfl | rfl | rfl | rfl | rfl | rfl | rfl | rfl <;> rfl)

theorem fin_len {n m s : Nat} (h : Geo.may n m s = true) : 48 ≤ Geo.fin n m s := by
  obtain ⟨⟨h1, h2, h3⟩, _⟩ := Geo.may_num h
  have h4 := Geo.bm_bounds h1 h2
  have h5 := Geo.bk_bounds h1 h2
  have h6 := Geo.fin_bounds h1 h2 h3
  have h7 := h3.bounds
  have h8 : 1 * 8 ≤ (n : Int) * ((s : Int) / 8) := Int.mul_le_mul (by omega) (by omega) (by omega) (by omega)
  unfold Geo.fin
  omega

theorem words_yes (w : World) {n m s : Nat} (h : Geo.may n m s = true) : Calls Tryz.prog 122 #[.agg #[.int .i64 (n : Int), .int .i64 (m : Int), .int .i64 (s : Int)]] w fun r w' => r = .returned (.int .i64 (Geo.fin n m s)) ∧ Below w.heap.size w w' := by
  have := Geo.words_any w n m s
  rw [Geo.iff_yes h] at this
  exact this

theorem frozen_set_other {w : World} {p q : Addr} (h : p.block ≠ q.block) (v : Value) : (w.setCell q v).frozen? p = w.frozen? p := World.frozen?_of_block (w := w) (Below.heap_setCell w q v p.block h)
theorem own_set_other {w : World} {b g i : Nat} {n m s : Int} (h : Own w b n m s) (hg : b ≠ g) (v : Value) : Own (w.setCell ⟨g, i, none⟩ v) b n m s :=
  ⟨⟨by simpa using h.box.lt, (cell_set_other hg _).trans h.box.c0, (cell_set_other hg _).trans h.box.c1, (cell_set_other hg _).trans h.box.c2⟩, fun o => (frozen_set_other hg _).trans (h.f o)⟩

/-- the words that were read up to k, in block g; the answer's own block b; what was there ahead is as it was -/
structure Rs (w : World) (b g k : Nat) (l : List Nat) (wr : World) : Prop where
  row : wr.rowIs g 189 8 (upt l k)
  own : Own wr b 0 0 0
  bg : b ≠ g
  below : Below w.heap.size w wr
  le : w.heap.size ≤ g

theorem Rs.set {w wr : World} {b g k : Nat} {l : List Nat} (h : Rs w b g k l wr) : Rs w b g (k + 1) l (wr.setCell ⟨g, k, none⟩ (.int .u64 ((l[k]?.getD 0 : Nat) : Int))) :=
  ⟨(h.row.set k _).congr (fun j _ => upt_step j), own_set_other h.own h.bg _, h.bg, h.below.setCell h.le _, h.le⟩

section
variable {w : World}
set_option maxHeartbeats 2000000 in
set_option maxRecDepth 100000 in
theorem read_any {B a : Nat} {w0 : World} {A : Pm.Abs} (h : Pm.Ses B w0 w a A) (hu : U64 A.words) :
    Calls Tryz.prog 78 #[.pointer (some ⟨a, 0, none⟩)] w fun r w' => r = .returned (.tuple #[gv (ron (rd A) A.words.length), .int .i64 (ev (ron (rd A) A.words.length))]) ∧ Below w.heap.size w w' := by
  have H := Lib.hid h
  have HU := Lib.hid hu
  clear h hu
  have HB := Lib.hid ((Below.refl w.heap.size w).alloc (Nat.le_refl _) (.cells #[.int .i64 0, .int .i64 0, .int .i64 0] 85))
  have HX := Lib.hid (owned w 0 0 0 85)
  have HZ := Lib.hid (World.size_alloc w (.cells #[.int .i64 0, .int .i64 0, .int .i64 0] 85))
  go_enter Tryz.func78, Tryz.ntmps78
  go_wp2
  generalize w.alloc (.cells #[.int .i64 0, .int .i64 0, .int .i64 0] 85) = W at *
  have hrow := zeros_row W 189 (rd A)
  rw [HZ.out] at hrow
  have hba := (Below.refl W.heap.size W).alloc (Nat.le_refl _) (.cells #[.int .u64 0, .int .u64 0, .int .u64 0, .int .u64 0, .int .u64 0, .int .u64 0, .int .u64 0, .int .u64 0] 189)
  have HR := Lib.hid (show Rs w w.heap.size (w.heap.size + 1) 0 (rd A) _ from ⟨hrow, HX.out.keep hba, by omega, HB.out.trans (hba.mono HB.out.size), by omega⟩)
  clear hrow hba HX HB HZ
  generalize W.alloc (.cells #[.int .u64 0, .int .u64 0, .int .u64 0, .int .u64 0, .int .u64 0, .int .u64 0, .int .u64 0, .int .u64 0] 189) = W1 at *
  clear W
  go_loopw [8] (fun i wr => ∃ (k : Nat), k ≤ 8 ∧ i = .int .i64 (k : Int) ∧ Rs w w.heap.size (w.heap.size + 1) k (rd A) wr) (fun i _ => 8 - (intOf i).toNat)
  case atStart => exact ⟨0, Nat.zero_le _, rfl, HR.out⟩
  case round =>
    obtain ⟨k, hk, rfl, hrs⟩ := hrel
    have HS := Lib.hid hrs
    clear hrs HR
    by_cases hlt : k < 8
    · have HC := Lib.hid (load_any (ses_keep H.out HS.out.below) HU.out k hlt)
      have hi0 : (0 : Int) ≤ (k : Int) := by omega
      have hi1 : (k : Int) < 8 := by omega
      have hrc := HS.out.row.cell hlt
      have hrf := HS.out.row.frozen k
      have HS2 := Lib.hid HS.out.set
      generalize (rd A)[k]?.getD 0 = x at *
      go_wp2_with fail
      refine HC.out.mono ?_
      rintro e w' ⟨rfl, rfl⟩
      go_wp2
      refine ⟨⟨k + 1, by omega, by go_num, HS2.out⟩, by simp [intOf]; omega⟩
    · obtain rfl : k = 8 := by omega
      have hdc := decode_any (some ⟨w.heap.size + 1, 0, none⟩) 8 (rd A) (row_read HS.out.row HU.out)
      rw [rd_len] at hdc
      cases ho : dec (rd A) with
      | none =>
        rw [ho] at hdc
        simp only [gv, ev] at hdc
        have HD := Lib.hid hdc
        have HN := Lib.hid (show ron (rd A) A.words.length = none by unfold ron; rw [ho])
        clear hdc ho
        go_wp2_with fail
        refine HD.out.mono ?_
        rintro e w1 ⟨rfl, hb⟩
        have hb0 := hb.alloc hb.size (.cells #[.int .i64 0, .int .i64 0, .int .i64 0] 85)
        have HX1 := Lib.hid (HS.out.own.keep hb)
        have HB1 := Lib.hid (HS.out.below.trans (hb0.mono HS.out.below.size))
        have HB0 := Lib.hid (HS.out.below.trans (hb.mono HS.out.below.size))
        clear hb hb0 HS HD
        have hlt1 : w.heap.size < w1.heap.size := HX1.out.box.lt
        have hc0 := HX1.out.box.c0
        have hc1 := HX1.out.box.c1
        have hc2 := HX1.out.box.c2
        have hf0 := HX1.out.f 0
        have hf1 := HX1.out.f 1
        have hf2 := HX1.out.f 2
        go_wp2
        rw [HN.out]
        refine bodyPost_ret (v := .tuple #[gv none, .int .i64 (ev none)]) ?_ rfl ⟨rfl, ?_⟩
        · simp [results, Tryz.results78, go_sem, gv, ev, hc0, hc1, hc2, hlt1]
        · first
          | exact ((HB1.out.setCell (Nat.le_refl _) _).setCell (Nat.le_refl _) _).setCell (Nat.le_refl _) _
          | exact (((HB0.out.setCell (Nat.le_refl _) _).setCell (Nat.le_refl _) _).setCell (Nat.le_refl _) _).alloc (by have := HB0.out.size; simpa using this) _
      | some q =>
        obtain ⟨n, m, s⟩ := q
        have hms := dec_some ho
        rw [ho] at hdc
        simp only [gv, ev] at hdc
        have HD := Lib.hid hdc
        have HW := Lib.hid (fun w => words_yes w hms.1)
        have HM := Lib.hid hms.1
        have HO := Lib.hid ho
        clear hdc ho hms
        go_wp2_with fail
        refine HD.out.mono ?_
        rintro e w1 ⟨rfl, hb⟩
        have hb0 := hb.alloc hb.size (.cells #[.int .i64 (n : Int), .int .i64 (m : Int), .int .i64 (s : Int)] 85)
        have HX1 := Lib.hid (HS.out.own.keep hb0)
        have HB1 := Lib.hid (HS.out.below.trans (hb0.mono HS.out.below.size))
        have HG1 := Lib.hid (Geo.boxed w1 n m s 85)
        clear hb hb0 HS HD
        go_wp2_with fail
        generalize w1.alloc (.cells #[.int .i64 (n : Int), .int .i64 (m : Int), .int .i64 (s : Int)] 85) = w2 at *
        generalize w1.heap.size = k1 at *
        refine (HW.out _).mono ?_
        rintro e w3 ⟨rfl, hb⟩
        have HX3 := Lib.hid (HX1.out.keep hb)
        have HB3 := Lib.hid (HB1.out.trans (hb.mono HB1.out.size))
        have HG3 := Lib.hid (HG1.out.keep hb)
        have HL := Lib.hid (Pm.ses_len (ses_keep H.out HB3.out))
        clear hb HX1 HB1 HG1 HW
        go_wp2_with fail
        refine HL.out.mono ?_
        rintro e w' ⟨rfl, rfl⟩
        have hc0 := HX3.out.box.c0
        have hc1 := HX3.out.box.c1
        have hc2 := HX3.out.box.c2
        have hf0 := HX3.out.f 0
        have hf1 := HX3.out.f 1
        have hf2 := HX3.out.f 2
        have hg0 := HG3.out.c0
        have hg1 := HG3.out.c1
        have hg2 := HG3.out.c2
        generalize hfin : Geo.fin (n : Int) (m : Int) (s : Int) = F at *
        by_cases hFL : F = (A.words.length : Int)
        · have HN := Lib.hid (show ron (rd A) A.words.length = some (n, m, s) by unfold ron; rw [HO.out]; simp only; rw [hfin, if_pos hFL])
          rw [hFL]
          clear hfin hFL
          go_wp2
          rw [HN.out]
          refine bodyPost_ret (v := .tuple #[gv (some (n, m, s)), .int .i64 (ev (some (n, m, s)))]) ?_ rfl ⟨rfl, ?_⟩
          · simp [results, Tryz.results78, go_sem, gv, ev, hc0, hc1, hc2]
          · exact ((HB3.out.setCell (Nat.le_refl _) _).setCell (Nat.le_refl _) _).setCell (Nat.le_refl _) _
        · have HN := Lib.hid (show ron (rd A) A.words.length = none by unfold ron; rw [HO.out]; simp only; rw [hfin, if_neg hFL])
          clear hfin
          go_wp2
          rw [HN.out]
          refine bodyPost_ret (v := .tuple #[gv none, .int .i64 (ev none)]) ?_ rfl ⟨rfl, ?_⟩
          · simp [results, Tryz.results78, go_sem, gv, ev, hc0, hc1, hc2]
          · exact ((HB3.out.setCell (Nat.le_refl _) _).setCell (Nat.le_refl _) _).setCell (Nat.le_refl _) _
end
end Sup
end Go.Proofs.YtilolepbfmcbgaaGreatDoor
/- A device beside what a call keeps: Vd (the device's blocks lie apart from the blocks of Q), Up (its words, its steps, its stores; it isn't down), and its calls. -/
namespace Go.Proofs.YtilolepbfmcbgaaGreatDoor
open Go.RowKit Go.MapKept
namespace Vol

/-- the device at block a is A; none of its blocks is one of Q, which lie there -/
def Vd (Q : Nat → Prop) (w : World) (a : Nat) (A : Pm.Abs) : Prop :=
  ∃ D, Pm.Rep w a D ∧ D.abs = A ∧ A.Ok ∧ (∀ k, Pm.Foot a D k → ¬ Q k) ∧ ∀ k, Q k → k < w.heap.size
/-- the blocks of Q are as they were -/
abbrev Kq (Q : Nat → Prop) (w w' : World) : Prop := Pm.Off (fun k => ¬ Q k) w w'

section
variable {Q Q' : Nat → Prop} {w w' w'' : World} {a : Nat} {A A' : Pm.Abs}
theorem Kq.trans (h : Kq Q w w') (k : Kq Q w' w'') : Kq Q w w'' := Pm.Off.trans h k (fun _ _ h => h)
theorem Kq.sub (h : Kq Q' w w') (hs : ∀ k, Q k → Q' k) : Kq Q w w' := h.mono (fun b _ hn hq => hn (hs b hq))
theorem Kq.at (h : Kq Q w w') {k : Nat} (hq : Q k) (hk : k < w.heap.size) : w'.heap[k]? = w.heap[k]? := h.block k hk (fun hn => hn hq)
theorem kq_below (h : Below w.heap.size w w') : Kq Q w w' := ⟨h.os, h.tape, h.output, h.size, fun k hk _ => h.block k hk⟩
theorem Kq.below {B : Nat} (h : Kq Q w w') (hB : B ≤ w.heap.size) (hq : ∀ k, k < B → Q k) : Below B w w' :=
  ⟨h.os, h.tape, h.output, h.size, fun k hk => h.block k (by omega) (fun hn => hn (hq k hk))⟩

theorem Vd.lt (h : Vd Q w a A) : ∀ k, Q k → k < w.heap.size := by
  obtain ⟨_, _, _, _, _, h⟩ := h; exact h
theorem Vd.ok (h : Vd Q w a A) : A.Ok := by
  obtain ⟨_, _, _, h, _⟩ := h; exact h
theorem Vd.keep (h : Vd Q w a A) (hb : Below w.heap.size w w') : Vd Q w' a A := by
  obtain ⟨D, hrep, e, ok, hf, hq⟩ := h
  exact ⟨D, hrep.keep (fun k hk => hb.block k (hrep.foot_lt hk)), e, ok, hf, fun k hk => Nat.lt_of_lt_of_le (hq k hk) hb.size⟩
/-- what was made since is kept, too -/
theorem Vd.grow (h : Vd Q w a A) (hb : Below w.heap.size w w') : Vd (fun k => Q k ∨ (w.heap.size ≤ k ∧ k < w'.heap.size)) w' a A := by
  obtain ⟨D, hrep, e, ok, hf, hq⟩ := h
  refine ⟨D, hrep.keep (fun k hk => hb.block k (hrep.foot_lt hk)), e, ok, fun k hk hn => ?_, fun k hk => ?_⟩
  · rcases hn with hn | hn
    · exact hf k hk hn
    · have := hrep.foot_lt hk; omega
  · rcases hk with hk | hk
    · exact Nat.lt_of_lt_of_le (hq k hk) hb.size
    · exact hk.2
theorem Vd.sub (h : Vd Q w a A) (hs : ∀ k, Q' k → Q k) : Vd Q' w a A := by
  obtain ⟨D, hrep, e, ok, hf, hq⟩ := h
  exact ⟨D, hrep, e, ok, fun k hk hn => hf k hk (hs k hn), fun k hk => hq k (hs k hk)⟩
theorem vd_step {D D' : Pm.Dev} (hf : ∀ k, Pm.Foot a D k → ¬ Q k) (hq : ∀ k, Q k → k < w.heap.size) (hr : Pm.Res w a D w' D') (ha : D'.abs = A') (hok : A'.Ok) : Vd Q w' a A' ∧ Kq Q w w' := by
  refine ⟨⟨D', hr.rep, ha, hok, fun k hk hn => ?_, fun k hk => Nat.lt_of_lt_of_le (hq k hk) hr.off.size⟩, hr.off.mono (fun b _ hb => hf b hb)⟩
  rcases hr.foot k hk with h | h
  · exact hf k h hn
  · have := hq k hn; omega
theorem Vd.ses (h : Vd Q w a A) : Pm.Ses 0 w w a A := by
  obtain ⟨D, hrep, e, ok, hf, hq⟩ := h
  exact ⟨D, hrep, e, ok, Below.refl _ _, fun _ _ => Nat.zero_le _, Nat.zero_le _⟩

/-- a device that isn't armed: its words, its steps, its stores -/
def Up (Q : Nat → Prop) (w : World) (a : Nat) (W : List Nat) (st sn : Nat) : Prop :=
  ∃ A : Pm.Abs, Vd Q w a A ∧ A.armed = false ∧ A.words = W.map Int.ofNat ∧ (∀ x ∈ W, x < 18446744073709551616) ∧ A.steps = st ∧ A.stores = sn
variable {W : List Nat} {st sn : Nat}
theorem Up.lt (h : Up Q w a W st sn) : ∀ k, Q k → k < w.heap.size := by
  obtain ⟨A, h, _⟩ := h; exact h.lt
theorem Up.u64 (h : Up Q w a W st sn) : ∀ x ∈ W, x < 18446744073709551616 := by
  obtain ⟨A, _, _, _, h, _⟩ := h; exact h
theorem Up.size (h : Up Q w a W st sn) : W.length ≤ 4194304 := by
  obtain ⟨A, h, _, e, _⟩ := h
  have := h.ok.size
  rw [e] at this
  simpa using this
theorem Up.keep (h : Up Q w a W st sn) (hb : Below w.heap.size w w') : Up Q w' a W st sn := by
  obtain ⟨A, h, r⟩ := h; exact ⟨A, h.keep hb, r⟩
theorem Up.grow (h : Up Q w a W st sn) (hb : Below w.heap.size w w') : Up (fun k => Q k ∨ (w.heap.size ≤ k ∧ k < w'.heap.size)) w' a W st sn := by
  obtain ⟨A, h, r⟩ := h; exact ⟨A, h.grow hb, r⟩
theorem Up.sub (h : Up Q w a W st sn) (hs : ∀ k, Q' k → Q k) : Up Q' w a W st sn := by
  obtain ⟨A, h, r⟩ := h; exact ⟨A, h.sub hs, r⟩
/-- a block of Q may be set -/
theorem Up.put (h : Up Q w a W st sn) {p : Addr} (hp : Q p.block) (v : Value) : Up Q (w.setCell p v) a W st sn := by
  obtain ⟨A, ⟨D, hrep, e, ok, hf, hq⟩, r⟩ := h
  refine ⟨A, ⟨D, hrep.keep (fun k hk => Below.heap_setCell _ _ _ _ (fun e => hf k hk (by rw [e]; exact hp))), e, ok, hf, fun k hk => ?_⟩, r⟩
  have := hq k hk
  simpa [World.setCell] using this
theorem wds_block {w w' : World} {g : Nat} {l : List Nat} (h : Pack.Wds w (some ⟨g, 0, none⟩) l) (e : w'.heap[g]? = w.heap[g]?) : Pack.Wds w' (some ⟨g, 0, none⟩) l :=
  ⟨h.u64, h.len, fun j hj => by
    obtain ⟨b, o, e1, h1, h2⟩ := h.at' j hj
    injection e1 with e1
    injection e1 with e1 e2
    subst e1 e2
    refine ⟨g, 0, rfl, Pm.lt_of_some (e.trans (Array.getElem?_eq_getElem h1)), (World.cell?_of_block (w := w) e).trans h2⟩⟩
theorem abs_down (h : A.armed = false) : A.down = false := by unfold Pm.Abs.down; rw [h]; rfl

theorem up_load (h : Up Q w a W st sn) (k : Nat) : Calls Tryz.prog 120 #[.pointer (some ⟨a, 0, none⟩), .int .i64 (k : Int)] w fun r w' => r = .returned (.int .u64 ((W[k]?.getD 0 : Nat) : Int)) ∧ w = w' := by
  obtain ⟨A, hv, hu, hw, _⟩ := h
  refine (Pm.ses_load hv.ses (k : Int)).mono ?_
  rintro r w' ⟨rfl, rfl⟩
  refine ⟨?_, rfl⟩
  congr 2
  unfold Pm.Abs.has
  rw [hw]
  by_cases hk : k < W.length
  · rw [if_pos (by simp; exact hk)]
    simp [List.getElem?_eq_getElem hk]
  · rw [if_neg (by simp; omega), List.getElem?_eq_none (by omega)]
    rfl

theorem up_store (h : Up Q w a W st sn) (k x : Nat) (hk : k < W.length) (hx : x < 18446744073709551616) (hs : st + 1 < 100000000000) :
    Calls Tryz.prog 95 #[.pointer (some ⟨a, 0, none⟩), .int .i64 (k : Int), .int .u64 (x : Int)] w fun r w' => r = .returned (.bool true) ∧ Up Q w' a (W.set k x) (st + 1) (sn + 1) ∧ Kq Q w w' := by
  obtain ⟨A, ⟨D, hrep, rfl, hok, hf, hq⟩, hu, hw, h64, h1, h2⟩ := h
  have hkl : k < D.abs.words.length := by rw [hw]; simpa using hk
  refine (Pm.store_any hrep hok (abs_down hu) k (x : Int) hkl).mono ?_
  rintro r w' ⟨rfl, D', hres, ha⟩
  have hst : D.abs.steps + 1 < 100000000000 := by omega
  obtain ⟨g1, g2⟩ := vd_step hf hq hres ha (Pm.store_ok hok hkl (x : Int) hst)
  refine ⟨rfl, ⟨_, g1, ?_, ?_, ?_, ?_, ?_⟩, g2⟩
  · exact hu
  · show D.abs.words.set k (x : Int) = _
    rw [hw, List.map_set]
    rfl
  · intro y hy
    rcases List.mem_or_eq_of_mem_set hy with h | h
    · exact h64 y h
    · rw [h]; exact hx
  · show D.abs.steps + 1 = _
    rw [h1]
  · show D.abs.stores + 1 = _
    rw [h2]

theorem mark_same (A : Pm.Abs) (k : Nat) : (A.mark k).words = A.words ∧ (A.mark k).armed = A.armed ∧ (A.mark k).steps = A.steps ∧ (A.mark k).stores = A.stores := by
  unfold Pm.Abs.mark
  cases Pm.pget A.pend k with
  | none => exact ⟨rfl, rfl, rfl, rfl⟩
  | some v => exact ⟨rfl, rfl, rfl, rfl⟩
theorem marks_same (A : Pm.Abs) (k : Nat) : ∀ n, (A.marks k n).words = A.words ∧ (A.marks k n).armed = A.armed ∧ (A.marks k n).steps = A.steps ∧ (A.marks k n).stores = A.stores := by
  intro n
  induction n with
  | zero => exact ⟨rfl, rfl, rfl, rfl⟩
  | succ n ih =>
    have e : A.marks k (n + 1) = (A.marks k n).mark (k + n) := rfl
    rw [e]
    obtain ⟨h1, h2, h3, h4⟩ := mark_same (A.marks k n) (k + n)
    exact ⟨h1.trans ih.1, h2.trans ih.2.1, h3.trans ih.2.2.1, h4.trans ih.2.2.2⟩

theorem up_flush (h : Up Q w a W st sn) (k : Nat) (hk : 8 * k < W.length) (hs : st + 1 < 100000000000) :
    Calls Tryz.prog 97 #[.pointer (some ⟨a, 0, none⟩), .int .i64 (k : Int)] w fun r w' => r = .returned (.bool true) ∧ Up Q w' a W (st + 1) sn ∧ Kq Q w w' := by
  obtain ⟨A, ⟨D, hrep, rfl, hok, hf, hq⟩, hu, hw, h64, h1, h2⟩ := h
  have hkl : 8 * k < D.words.length := by
    have e : D.words.length = W.length := by
      have e : D.words = W.map Int.ofNat := hw
      rw [e, List.length_map]
    omega
  have hst : D.abs.steps + 1 < 100000000000 := by omega
  refine (Pm.flush_yes hrep hok (abs_down hu) k hkl hst).mono ?_
  rintro r w' ⟨rfl, D', hres, ha⟩
  obtain ⟨g1, g2⟩ := vd_step hf hq hres ha (Pm.flush_ok hok k hst)
  have hm := marks_same D.abs.step (8 * k) (min 8 (D.abs.words.length - 8 * k))
  refine ⟨rfl, ⟨_, g1, ?_, ?_, h64, ?_, ?_⟩, g2⟩
  · exact hm.2.1.trans hu
  · exact hm.1.trans hw
  · refine hm.2.2.1.trans ?_
    show D.abs.steps + 1 = _
    rw [h1]
  · exact hm.2.2.2.trans h2

theorem settle_same (A : Pm.Abs) (k : Nat) : (A.settle k).words = A.words ∧ (A.settle k).armed = A.armed ∧ (A.settle k).steps = A.steps ∧ (A.settle k).stores = A.stores := by
  unfold Pm.Abs.settle
  cases Pm.pget A.pend k with
  | none => exact ⟨rfl, rfl, rfl, rfl⟩
  | some v =>
    obtain ⟨vs, m⟩ := v
    simp only
    split <;> exact ⟨rfl, rfl, rfl, rfl⟩
theorem settles_same : ∀ (l : List Nat) (A : Pm.Abs), (A.settles l).words = A.words ∧ (A.settles l).armed = A.armed ∧ (A.settles l).steps = A.steps ∧ (A.settles l).stores = A.stores
  | [], _ => ⟨rfl, rfl, rfl, rfl⟩
  | k :: r, A => by
    obtain ⟨h1, h2, h3, h4⟩ := settles_same r (A.settle k)
    obtain ⟨g1, g2, g3, g4⟩ := settle_same A k
    exact ⟨h1.trans g1, h2.trans g2, h3.trans g3, h4.trans g4⟩

theorem up_fence (h : Up Q w a W st sn) (hs : st + 1 < 100000000000) :
    Calls Tryz.prog 168 #[.pointer (some ⟨a, 0, none⟩)] w fun r w' => r = .returned (.bool true) ∧ Up Q w' a W (st + 1) sn ∧ Kq Q w w' := by
  obtain ⟨A, ⟨D, hrep, rfl, hok, hf, hq⟩, hu, hw, h64, h1, h2⟩ := h
  have hst : D.abs.steps + 1 < 100000000000 := by omega
  refine (Pm.fence_yes hrep hok (abs_down hu) hst).mono ?_
  rintro r w' ⟨rfl, D', hres, ha⟩
  obtain ⟨g1, g2⟩ := vd_step hf hq hres ha (Pm.fence_ok hok hst)
  have hm := settles_same D.abs.marked D.abs.step
  refine ⟨rfl, ⟨_, g1, ?_, ?_, h64, ?_, ?_⟩, g2⟩
  · exact hm.2.1.trans hu
  · exact hm.1.trans hw
  · refine hm.2.2.1.trans ?_
    show D.abs.steps + 1 = _
    rw [h1]
  · exact hm.2.2.2.trans h2

theorem up_len (h : Up Q w a W st sn) : Calls Tryz.prog 123 #[.pointer (some ⟨a, 0, none⟩)] w fun r w' => r = .returned (.int .i64 (W.length : Int)) ∧ w = w' := by
  obtain ⟨A, hv, hu, hw, _⟩ := h
  have := Pm.ses_len hv.ses
  rw [hw, List.length_map] at this
  exact this

theorem up_steps (h : Up Q w a W st sn) : Calls Tryz.prog 13 #[.pointer (some ⟨a, 0, none⟩)] w fun r w' => r = .returned (.int .i64 (st : Int)) ∧ w = w' := by
  obtain ⟨A, ⟨D, hrep, rfl, _⟩, _, _, _, h1, _⟩ := h
  have c0 := hrep.cell 0
  simp only [Pm.Dev.cells] at c0
  have h1 : D.steps = st := h1
  rw [h1] at c0
  clear hrep h1
  go_enter Tryz.func13, Tryz.ntmps13
  go_wp2
  go_ret
  exact ⟨rfl, rfl⟩
theorem up_stores (h : Up Q w a W st sn) : Calls Tryz.prog 109 #[.pointer (some ⟨a, 0, none⟩)] w fun r w' => r = .returned (.int .i64 (sn : Int)) ∧ w = w' := by
  obtain ⟨A, ⟨D, hrep, rfl, _⟩, _, _, _, _, h1⟩ := h
  have c0 := hrep.cell 1
  simp only [Pm.Dev.cells] at c0
  have h1 : D.stores = sn := h1
  rw [h1] at c0
  clear hrep h1
  go_enter Tryz.func109, Tryz.ntmps109
  go_wp2
  go_ret
  exact ⟨rfl, rfl⟩

theorem u64s_map (l : List Nat) : Pm.u64s (l.map Int.ofNat) = Pack.u64s l := by
  unfold Pm.u64s Pack.u64s
  rw [List.map_map]
  rfl
/-- words in a row of the call's own -/
def Row (w w' : World) (r : Ending) (l : List Nat) : Prop :=
  ∃ g c : Nat, r = .returned (.slice (some ⟨g, 0, none⟩) l.length c) ∧ w.heap.size ≤ g ∧ Pack.Wds w' (some ⟨g, 0, none⟩) l ∧ Below w.heap.size w w'

theorem off_below {w w' : World} (h : Pm.Off (fun _ => False) w w') : Below w.heap.size w w' := ⟨h.os, h.tape, h.output, h.size, fun k hk => h.block k hk id⟩

end
end Vol
end Go.Proofs.YtilolepbfmcbgaaGreatDoor
/- pm.Of: a device of words. -/
namespace Go.Proofs.YtilolepbfmcbgaaGreatDoor
open Go.RowKit Go.MapKept
namespace Vol
section
variable {w : World}

theorem own_room (G : Option Addr) (n m : Nat) : Calls Tryz.prog 118 #[.slice G n m] w fun e w' => e = .returned (.pointer (some ⟨w.heap.size + 1, 0, none⟩)) ∧
    w' = (w.alloc (.map #[] 0)).alloc (.cells #[.int .i64 0, .int .i64 0, .bool false, .int .i64 0, .slice G n m, .map (some w.heap.size), .slice none 0 0] 52) := by
  have hmm := @run_makeMap Tryz.prog
  go_enter Tryz.func118, Tryz.ntmps118
  go_wp2
  go_ret
  exact ⟨rfl, rfl⟩

/-- a device of words that lie in a row of the call's own -/
theorem rep_of {w1 : World} {g c : Nat} {l : List Int} (h : w1.ownsRow w.heap.size 121 1 (.slice (some ⟨g, 0, none⟩) l.length c) l.length (Pm.u64s l)) :
    ∃ D, D.abs = ⟨0, 0, false, 0, l, [], []⟩ ∧ Pm.Rep ((w1.alloc (.map #[] 0)).alloc (.cells #[.int .i64 0, .int .i64 0, .bool false, .int .i64 0, .slice (some ⟨g, 0, none⟩) l.length c, .map (some w1.heap.size), .slice none 0 0] 52)) (w1.heap.size + 1) D ∧
      ∀ k, Pm.Foot (w1.heap.size + 1) D k → w.heap.size ≤ k := by
  rcases h.2 with ⟨e, _⟩ | ⟨g', c', cur, e, hb, hg, hn, hm, hs, ht⟩
  · cases e
  injection e with e1 _ e3
  injection e1 with e1
  injection e1 with e1
  subst e1 e3
  simp only [Nat.mul_one] at hs ht
  have hglt := Pm.lt_of_some hg
  have hcur : (Pm.u64s l ++ cur.toList.drop l.length).toArray = cur := by
    apply Array.toList_inj.1
    rw [← ht]
    exact List.take_append_drop _ _
  refine ⟨{ steps := 0, stores := 0, armed := false, left := 0, words := l, ents := [], marked := [], wb := g, mb := w1.heap.size, clock := 0, mka := none, mkc := 0, wcap := c, spare := cur.toList.drop l.length }, rfl, ?_, ?_⟩
  · refine ⟨?_, ?_, ?_, by simp, ⟨by simp [Pm.i64s], .inl ⟨rfl, rfl⟩⟩, by simp, by simp, by simp [Pm.Stamp]⟩
    · have := (heap_alloc (w1.alloc (.map #[] 0)) (.cells #[.int .i64 0, .int .i64 0, .bool false, .int .i64 0, .slice (some ⟨g, 0, none⟩) l.length c, .map (some w1.heap.size), .slice none 0 0] 52)).1
      rw [World.size_alloc] at this
      exact this
    · show _ = some (Obj.cells (Pm.u64s l ++ cur.toList.drop l.length).toArray 121 (0, 0))
      rw [hcur]
      exact Pm.blk_alloc (Pm.blk_alloc hg _) _
    · exact Pm.blk_alloc (heap_alloc w1 _).1 _
  · rintro k (rfl | rfl | rfl | hk | hk)
    · omega
    · exact hb
    · show w.heap.size ≤ w1.heap.size
      omega
    · simp at hk
    · simp [Pm.Dev.mkv, Value.ownBlock] at hk

set_option maxHeartbeats 4000000 in
set_option maxRecDepth 100000 in
theorem of_any (g c : Nat) (l : List Nat) (h : Pack.Wds w (some ⟨g, 0, none⟩) l) (hg : g < w.heap.size) (hc : l.length ≤ c) (h0 : 0 < l.length) (hl : l.length ≤ 4194304) :
    Calls Tryz.prog 77 #[.slice (some ⟨g, 0, none⟩) l.length c] w fun r w' => ∃ a, r = .returned (.pointer (some ⟨a, 0, none⟩)) ∧ Up (fun k => k < w.heap.size) w' a l 0 0 ∧ Below w.heap.size w w' := by
  have hcl := fun n => Pm.clone_any (w := w) ⟨g, 0, none⟩ n (l.map Int.ofNat) hg (by rw [List.length_map]; omega) (fun j u hu => by
    rw [Addr.add_lit]
    unfold Pm.u64s at hu
    rw [List.map_map, List.getElem?_map] at hu
    rcases Nat.lt_or_ge j l.length with h1 | h1
    · obtain ⟨b, o, e, _, hc⟩ := h.at' j h1
      injection e with e
      injection e with e1 e2
      subst e1 e2
      rw [List.getElem?_eq_getElem h1] at hu
      rw [hc]
      exact hu
    · rw [List.getElem?_eq_none h1] at hu
      cases hu)
  rw [List.length_map] at hcl
  have HC := Lib.hid hcl
  have H64 := Lib.hid h.u64
  have HO := Lib.hid (fun (w : World) G n m => @own_room w G n m)
  have hmin : min (l.length : Int) 4194304 = (l.length : Int) := by omega
  have HMIN := Lib.hid hmin
  clear hcl h hg hmin
  go_enter Tryz.func77, Tryz.ntmps77
  go_wp2_with fail
  try rw [HMIN.out, Int.toNat_natCast]
  refine (HC.out _).mono ?_
  rintro r w1 ⟨v, rfl, hown, hoff⟩
  rw [List.length_map] at hown
  obtain ⟨g1, c1, rfl⟩ := Pm.row_form hown h0
  have HW := Lib.hid hown
  have HF := Lib.hid hoff
  clear hown hoff HC
  go_wp2_with fail
  refine (HO.out _ _ _ _).mono ?_
  rintro r w2 ⟨rfl, rfl⟩
  go_wp2
  go_ret
  have hown := HW.out
  rw [show l.length = (l.map Int.ofNat).length by simp] at hown
  obtain ⟨D, hD, hrep, hf⟩ := rep_of (w := w) hown
  rw [List.length_map] at hrep
  have hb := (off_below HF.out)
  have hb2 : Below w.heap.size w ((w1.alloc (.map #[] 0)).alloc (.cells #[.int .i64 0, .int .i64 0, .bool false, .int .i64 0, .slice (some ⟨g1, 0, none⟩) l.length c1, .map (some w1.heap.size), .slice none 0 0] 52)) :=
    (hb.alloc hb.size _).alloc (by have := hb.size; simp; omega) _
  refine ⟨_, rfl, ⟨_, ⟨D, hrep, hD, ?_, fun k hk hn => ?_, fun k hk => ?_⟩, rfl, rfl, H64.out, rfl, rfl⟩, hb2⟩
  · refine ⟨by simp, by simp, by simp, by simp, by simp, by simpa using hl, Nat.le_refl _, by simp, by simp⟩
  · have := hf k hk
    omega
  · exact Nat.lt_of_lt_of_le hk hb2.size
end
end Vol
end Go.Proofs.YtilolepbfmcbgaaGreatDoor
/- The library's bodies (slices.Compact) as they stand in this program, in plain words. -/
namespace Go.Proofs
open Go.Shelf
def Tryz.compactA_ren : Go.Shelf.Ren := ⟨fun | 43 => 138 | n => n, fun | 22 => 50 | 23 => 3 | 3 => 3 | 4 => 4 | 0 => 0 | n => n, fun | n => n⟩
theorem Tryz.compactA : Go.Proofs.SlLaysN.n43 Tryz.prog Tryz.compactA_ren := {
  mixed := by kernel_rfl
  f43 := ⟨Tryz.f138.name, by decide, Tryz.func138.trans (congrArg some (by kernel_rfl))⟩
  t0 := Tryz.underlying0
  a0 := Tryz.isAgg0
  z0 := Tryz.sizeOf0
  v0 := Tryz.zeroValue0
  t3 := Tryz.underlying3
  a3 := Tryz.isAgg3
  z3 := Tryz.sizeOf3
  v3 := Tryz.zeroValue3
  t4 := Tryz.underlying4
  a4 := Tryz.isAgg4
  z4 := Tryz.sizeOf4
  v4 := Tryz.zeroValue4
  t22 := Tryz.underlying50
  a22 := Tryz.isAgg50
  z22 := Tryz.sizeOf50
  v22 := Tryz.zeroValue50
  t23 := Tryz.underlying3
  a23 := Tryz.isAgg3
  z23 := Tryz.sizeOf3
  v23 := Tryz.zeroValue3
  i23 := by kernel_rfl }
end Go.Proofs
/- The medium: words read and written many at once. -/
namespace Go.Proofs.YtilolepbfmcbgaaGreatDoor
open Go.RowKit Go.MapKept
namespace Vol

/-- stores as they lie, from the start of a block -/
structure Sts (w : World) (g : Nat) (l : List (Nat × Nat)) : Prop where
  lt : g < w.heap.size
  at' : ∀ j (h : j < l.length), w.cell? ⟨g, j * 2, none⟩ = some (.int .i64 (l[j].1 : Int)) ∧ w.cell? ⟨g, j * 2 + 1, none⟩ = some (.int .u64 (l[j].2 : Int))
theorem Sts.of_block {w w' : World} {g : Nat} {l : List (Nat × Nat)} (h : Sts w g l) (e : w'.heap[g]? = w.heap[g]?) : Sts w' g l :=
  ⟨Pm.lt_of_some (e.trans (Array.getElem?_eq_getElem h.lt)), fun j hj => ⟨(World.cell?_of_block (w := w) e).trans (h.at' j hj).1, (World.cell?_of_block (w := w) e).trans (h.at' j hj).2⟩⟩
theorem Sts.keep {w w' : World} {g : Nat} {l : List (Nat × Nat)} (h : Sts w g l) (hb : Below w.heap.size w w') : Sts w' g l := h.of_block (hb.block g h.lt)
theorem Sts.kq {Q : Nat → Prop} {w w' : World} {g : Nat} {l : List (Nat × Nat)} (h : Sts w g l) (hk : Kq Q w w') (hq : Q g) : Sts w' g l := h.of_block (hk.at hq h.lt)

section
variable {Q : Nat → Prop} {w : World} {a : Nat} {W : List Nat} {st sn : Nat}

/-- a device pointer in a box -/
structure Bx (w : World) (b a : Nat) : Prop where
  lt : b < w.heap.size
  c0 : w.cell? ⟨b, 0, none⟩ = some (.pointer (some ⟨a, 0, none⟩))
theorem Bx.of_block {w w' : World} {b a : Nat} (h : Bx w b a) (e : w'.heap[b]? = w.heap[b]?) : Bx w' b a :=
  ⟨Pm.lt_of_some (e.trans (Array.getElem?_eq_getElem h.lt)), (World.cell?_of_block (w := w) e).trans h.c0⟩
theorem Bx.keep {w w' : World} {b a : Nat} (h : Bx w b a) (hb : Below w.heap.size w w') : Bx w' b a := h.of_block (hb.block b h.lt)
theorem Bx.kq {Q : Nat → Prop} {w w' : World} {b a : Nat} (h : Bx w b a) (hk : Kq Q w w') (hq : Q b) : Bx w' b a := h.of_block (hk.at hq h.lt)
theorem bx_new (w : World) (a : Nat) (t : TypeId) : Bx (w.alloc (.cells #[.pointer (some ⟨a, 0, none⟩)] t)) w.heap.size a := ⟨by simp, Pack.alloc_cell w _ t 0⟩

/-- the words that were read up to k -/
structure Rd (w : World) (a n : Nat) (l : List Nat) (k : Nat) (wr : World) : Prop where
  box : Bx wr w.heap.size a
  row : wr.rowIs (w.heap.size + 1) 121 n (Pack.upto l k)
  below : Below w.heap.size w wr
theorem Rd.set {wr : World} {n k : Nat} {l : List Nat} (h : Rd w a n l k wr) : Rd w a n l (k + 1) (wr.setCell ⟨w.heap.size + 1, k, none⟩ (.int .u64 ((l[k]?.getD 0 : Nat) : Int))) :=
  ⟨h.box.of_block (Below.heap_setCell _ _ _ _ (by show w.heap.size ≠ w.heap.size + 1; omega)), (h.row.set k _).congr (fun j _ => Pack.upto_step j), h.below.setCell (by show w.heap.size ≤ w.heap.size + 1; omega) _⟩

set_option maxHeartbeats 4000000 in
set_option maxRecDepth 100000 in
theorem read_any (h : Up Q w a W st sn) (f n : Nat) (hf : f ≤ 10000000) (hn : n ≤ 4194304) :
    Calls Tryz.prog 125 #[.agg #[.pointer (some ⟨a, 0, none⟩)], .int .i64 (f : Int), .int .i64 (n : Int)] w fun r w' =>
      ∃ g, r = .returned (.slice (some ⟨g, 0, none⟩) n n) ∧ w.heap.size ≤ g ∧ w'.rowIs g 121 n (fun i => .int .u64 (((rdw W f n)[i]?.getD 0 : Nat) : Int)) ∧ Below w.heap.size w w' := by
  have H := Lib.hid h
  clear h
  have HX := Lib.hid (bx_new w a 113)
  have HB := Lib.hid ((Below.refl w.heap.size w).alloc (Nat.le_refl _) (.cells #[.pointer (some ⟨a, 0, none⟩)] 113))
  have HZ := Lib.hid (World.size_alloc w (.cells #[.pointer (some ⟨a, 0, none⟩)] 113))
  go_enter Tryz.func125, Tryz.ntmps125
  have hmk := fun W => Pm.run_new n (n : Int) rfl hn W
  go_wp2
  clear hmk
  generalize w.alloc (.cells #[.pointer (some ⟨a, 0, none⟩)] 113) = w1 at *
  have hba := (Below.refl w1.heap.size w1).alloc (Nat.le_refl _) (.cells (madeCells #[.int .u64 0] n) 121)
  have hrow := (World.rowIs_made w1 (.int .u64 0) n 121).congr (g := Pack.upto (rdw W f n) 0) (fun i _ => by simp [Pack.upto])
  rw [HZ.out] at hrow
  have HR := Lib.hid (show Rd w a n (rdw W f n) 0 _ from ⟨HX.out.keep hba, hrow, HB.out.trans (hba.mono HB.out.size)⟩)
  clear hrow hba HX HB HZ
  generalize w1.alloc (.cells (madeCells #[.int .u64 0] n) 121) = w2 at *
  clear w1
  go_loopw [13] (fun i wr => ∃ (k : Nat), k ≤ n ∧ i = .int .i64 (k : Int) ∧ Rd w a n (rdw W f n) k wr) (fun i _ => n - (intOf i).toNat)
  case atStart => exact ⟨0, Nat.zero_le _, rfl, HR.out⟩
  case round =>
    obtain ⟨k, hk, rfl, hrs⟩ := hrel
    have HS := Lib.hid hrs
    clear hrs HR
    by_cases hlt : k < n
    · have HC := Lib.hid (up_load (H.out.keep HS.out.below) (f + k))
      have hx : (rdw W f n)[k]?.getD 0 = W[f + k]?.getD 0 := by
        have hl : k < (rdw W f n).length := by rw [rdw_len]; exact hlt
        rw [List.getElem?_eq_getElem hl, rdw_get]
        rfl
      have hi0 : (0 : Int) ≤ (k : Int) := by omega
      have hi1 : (k : Int) < (n : Int) := by omega
      have hrc := HS.out.row.cell hlt
      have hrf := HS.out.row.frozen k
      have hc0 := HS.out.box.c0
      have HS2 := Lib.hid HS.out.set
      rw [hx] at HS2
      clear hx
      generalize W[f + k]?.getD 0 = x at *
      generalize hcast : ((f + k : Nat) : Int) = F at *
      have hF : (f : Int) + (k : Int) = F := by omega
      clear hcast
      go_wp2_with fail
      refine HC.out.mono ?_
      rintro e w' ⟨rfl, rfl⟩
      go_wp2
      refine ⟨⟨k + 1, by omega, by go_num, HS2.out⟩, by simp [intOf]; omega⟩
    · obtain rfl : k = n := by omega
      go_wp2
      go_ret
      refine ⟨_, rfl, by omega, HS.out.row.congr (fun i hi => ?_), HS.out.below⟩
      unfold Pack.upto
      rw [if_pos hi]

theorem store_info : (Tryz.prog.info? 134).map (fun i => (i.zero, i.size, i.bytes)) = some (some (.agg #[.int .i64 0, .int .u64 0]), 2, 16) := by kernel_rfl
/-- the cells of stores, made up to the m-th -/
def stc (l : List (Nat × Nat)) (m i : Nat) : Value :=
  if i / 2 < m then (if i % 2 = 0 then .int .i64 (((l[i / 2]?.getD (0, 0)).1 : Nat) : Int) else .int .u64 (((l[i / 2]?.getD (0, 0)).2 : Nat) : Int)) else if i % 2 = 0 then .int .i64 0 else .int .u64 0
theorem stc_step {l : List (Nat × Nat)} {m x y : Nat} (h : l[m]?.getD (0, 0) = (x, y)) (j : Nat) : (if j = m * 2 + 1 then Value.int .u64 (y : Int) else if j = m * 2 then Value.int .i64 (x : Int) else stc l m j) = stc l (m + 1) j := by
  unfold stc
  by_cases h1 : j = m * 2 + 1
  · subst h1
    rw [if_pos rfl, show (m * 2 + 1) / 2 = m by omega, if_pos (by omega), if_neg (by omega), h]
  · rw [if_neg h1]
    by_cases h2 : j = m * 2
    · subst h2
      rw [if_pos rfl, show m * 2 / 2 = m by omega, if_pos (by omega), if_pos (by omega), h]
    · rw [if_neg h2]
      by_cases h3 : j / 2 < m
      · rw [if_pos h3, if_pos (show j / 2 < m + 1 by omega)]
      · rw [if_neg h3, if_neg (show ¬ j / 2 < m + 1 by omega)]
theorem made_two (w : World) (n : Nat) (l : List (Nat × Nat)) (t : TypeId) : (w.alloc (.cells (madeCells #[.int .i64 0, .int .u64 0] (n * 2)) t)).rowIs w.heap.size t (n * 2) (stc l 0) := by
  have h := World.rowIs_alloc w (madeCells #[.int .i64 0, .int .u64 0] (n * 2)) t (stc l 0) (fun i hi => by
    rw [size_madeCells] at hi
    unfold stc
    rw [if_neg (by omega)]
    have : i % 2 = 0 ∨ i % 2 = 1 := by omega
    rcases this with h | h <;> simp [madeCells, hi, h])
  rwa [size_madeCells] at h
theorem sts_row {g n : Nat} {l : List (Nat × Nat)} {t : TypeId} (h : w.rowIs g t (n * 2) (stc l n)) (hl : l.length = n) : Sts w g l := by
  refine ⟨h.lt, fun j hj => ?_⟩
  have h1 := h.cell (i := j * 2) (by omega)
  have h2 := h.cell (i := j * 2 + 1) (by omega)
  unfold stc at h1 h2
  rw [if_pos (by omega), if_pos (by omega), show j * 2 / 2 = j by omega, List.getElem?_eq_getElem hj] at h1
  rw [if_pos (by omega), if_neg (by omega), show (j * 2 + 1) / 2 = j by omega, List.getElem?_eq_getElem hj] at h2
  exact ⟨h1, h2⟩

set_option maxHeartbeats 4000000 in
set_option maxRecDepth 100000 in
theorem storesOf_any (f : Nat) (A : Option Addr) (c : Nat) (l : List Nat) (h : Pack.Wds w A l) (hf : f ≤ 10000000) (hl : l.length ≤ 4194304) :
    Calls Tryz.prog 63 #[.int .i64 (f : Int), .slice A l.length c] w fun r w' =>
      r = .returned (.slice (some ⟨w.heap.size, 0, none⟩) l.length l.length) ∧ Sts w' w.heap.size (sto f l) ∧ w'.rowIs w.heap.size 134 (l.length * 2) (stc (sto f l) l.length) ∧ Below w.heap.size w w' := by
  obtain ⟨i0, hi0, hz0, hz1, hz2⟩ := info_parts store_info
  have hmk := run_make (P := Tryz.prog) w 129 134 i0 _ Tryz.underlying129 hi0 hz0 .i64 .i64 (l.length : Int) (l.length : Int) (by omega) (by omega) (by rw [hz2]; omega) (by omega)
  rw [hz1] at hmk
  simp only [Value.cells, Int.toNat_natCast] at hmk
  have H := Lib.hid h
  have HR0 := Lib.hid (made_two w l.length (sto f l) 134)
  have HB0 := Lib.hid ((Below.refl w.heap.size w).alloc (Nat.le_refl _) (.cells (madeCells #[.int .i64 0, .int .u64 0] (l.length * 2)) 134))
  clear h
  go_enter Tryz.func63, Tryz.ntmps63
  go_wp2
  generalize w.alloc (.cells (madeCells #[.int .i64 0, .int .u64 0] (l.length * 2)) 134) = w1 at *
  go_loopw [13] (fun i wr => ∃ (k : Nat), k ≤ l.length ∧ i = .int .i64 (k : Int) ∧ wr.rowIs w.heap.size 134 (l.length * 2) (stc (sto f l) k) ∧ Below w.heap.size w wr) (fun i _ => l.length - (intOf i).toNat)
  case atStart => exact ⟨0, Nat.zero_le _, rfl, HR0.out, HB0.out⟩
  case round =>
    obtain ⟨k, hk, rfl, hrow, hbel⟩ := hrel
    have HS := Lib.hid hrow
    have HB := Lib.hid hbel
    clear hrow hbel HR0 HB0
    by_cases hlt : k < l.length
    · obtain ⟨b, o, rfl, hb, hcell⟩ := H.out.at' k hlt
      have hcell := (HB.out.cell (p := ⟨b, o + k, none⟩) hb).trans hcell
      have hx : (sto f l)[k]?.getD (0, 0) = (f + k, l[k]) := by
        have h1 : k < (sto f l).length := by rw [sto_len]; exact hlt
        rw [List.getElem?_eq_getElem h1, sto_get, List.getElem?_eq_getElem hlt]
        rfl
      have HX := Lib.hid hx
      clear hx
      generalize l[k] = x at *
      have hi0 : (0 : Int) ≤ (k : Int) := by omega
      have hi1 : (k : Int) < (l.length : Int) := by omega
      have hf0 := HS.out.frozen (k * 2)
      have hf1 := HS.out.frozen (k * 2 + 1)
      have hc0 := HS.out.cell (i := k * 2) (by omega)
      have hc1 := HS.out.cell (i := k * 2 + 1) (by omega)
      generalize hcast : ((f + k : Nat) : Int) = F at *
      have hF : (f : Int) + (k : Int) = F := by omega
      have HF := Lib.hid hcast
      clear hcast
      go_wp2
      refine ⟨⟨k + 1, by omega, by go_num, ?_, ?_⟩, by simp [intOf]; omega⟩
      · have h2 := ((HS.out.set (k * 2) (.int .i64 F)).set (k * 2 + 1) (.int .u64 (x : Int)))
        rw [← HF.out] at h2
        have h3 := h2.congr (fun j _ => stc_step HX.out j)
        rw [HF.out] at h3
        exact h3
      · exact (HB.out.setCell (by show w.heap.size ≤ w.heap.size; omega) _).setCell (by show w.heap.size ≤ w.heap.size; omega) _
    · obtain rfl : k = l.length := by omega
      go_wp2
      go_ret
      exact ⟨rfl, sts_row HS.out (sto_len _ _), HS.out, HB.out⟩
end
end Vol
end Go.Proofs.YtilolepbfmcbgaaGreatDoor
/- The medium's lines, and its write. -/
namespace Go.Proofs.YtilolepbfmcbgaaGreatDoor
open Go.RowKit Go.MapKept
namespace Vol

theorem compact_le (zs : List Int) : (Lib.compact zs).length ≤ zs.length := by
  unfold Lib.compact Lib.compactUpTo
  rw [List.length_map]
  exact Nat.le_trans (List.length_filter_le _ _) (by rw [List.length_range]; exact Nat.le_refl _)

theorem compact_any {w : World} {B n c : Nat} {G : Option Addr} {zs : List Int} (h : w.ownsRow B 3 1 (.slice G n c) n (Pack.i64s zs)) (hB : B ≤ w.heap.size) (hn : n ≤ 4194304) :
    Calls Tryz.prog 138 #[.slice G n c] w fun r w' => ∃ (G' : Option Addr) (c' : Nat), r = .returned (.slice G' (Lib.compact zs).length c') ∧ w'.ownsRow B 3 1 (.slice G' (Lib.compact zs).length c') (Lib.compact zs).length (Pack.i64s (Lib.compact zs)) ∧ Below B w w' := by
  have hl : zs.length = n := by simpa [Pack.i64s] using h.1
  by_cases hv : (Value.slice G n c) = .slice none 0 0
  · injection hv with h1 h2 h3
    subst h1 h2 h3
    obtain rfl : zs = [] := List.length_eq_zero_iff.1 hl
    refine (AnyG.slices_Compact_int_empty Tryz.compactA none 0 w).mono ?_
    rintro r w' ⟨rfl, rfl⟩
    exact ⟨none, 0, rfl, World.ownsRow_nil _ _ _ _, Below.refl _ _⟩
  · obtain ⟨g, cap, he, hb, hg, hnc, hcm, hl2, hH⟩ := Lib.holds_of_ownsRow (enc := Value.int .i64) h hv
    injection he with h1 h2 h3
    subst h1 h3
    have hc := AnyG.slices_Compact_int Tryz.compactA g 0 c zs w hH (by omega) (by omega)
    rw [hl] at hc
    refine hc.mono ?_
    rintro r w' ⟨rfl, q, rfl⟩
    have hle := compact_le zs
    have ho := Lib.ownsRow_putRow (q := q) (k := (Lib.compact zs).length) (ys := Lib.compact zs ++ List.replicate (n - (Lib.compact zs).length) 0) h (by simp; omega) (by omega)
    rw [List.take_left' rfl] at ho
    exact ⟨_, _, rfl, ho, Lib.below_putRow (Below.refl _ _) hb⟩

/-- ints as they lie in a row of the call's own -/
def Ints (w0 w : World) (G : Option Addr) (l : List Int) : Prop := ∀ j (h : j < l.length), ∃ g, G = some ⟨g, 0, none⟩ ∧ w0.heap.size ≤ g ∧ g < w.heap.size ∧ w.cell? ⟨g, j, none⟩ = some (.int .i64 l[j])
theorem ints_own {w0 w : World} {n c : Nat} {G : Option Addr} {l : List Int} (h : w.ownsRow w0.heap.size 3 1 (.slice G n c) n (Pack.i64s l)) : Ints w0 w G l := by
  intro j hj
  have hl : l.length = n := by simpa [Pack.i64s] using h.1
  obtain ⟨g, e, hg, hc⟩ := Pack.own_cells h j (by omega)
  refine ⟨g, e, Pack.row_base_lt h (by rw [e]; rfl), hg, ?_⟩
  rw [Nat.zero_add] at hc
  rw [hc]
  simp [Pack.i64s, hj]

theorem i64s_lin {l : List (Nat × Nat)} {m : Nat} (h : m < l.length) : Pack.i64s (lin (l.take (m + 1))) = Pack.i64s (lin (l.take m)) ++ [.int .i64 ((l[m].1 / 8 : Nat) : Int)] := by
  unfold Pack.i64s lin
  rw [List.take_succ_eq_append_getElem h, List.map_append, List.map_append]
  rfl

set_option maxHeartbeats 4000000 in
set_option maxRecDepth 100000 in
theorem linesOf_any (w : World) (g c : Nat) (l : List (Nat × Nat)) (h : Sts w g l) (hl : l.length ≤ 4194304) (hs : ∀ p ∈ l, p.1 ≤ 10000000) :
    Calls Tryz.prog 96 #[.slice (some ⟨g, 0, none⟩) l.length c] w fun r w' => ∃ (G : Option Addr) (gc : Nat), r = .returned (.slice G (lns l).length gc) ∧ Ints w w' G (lns l) ∧ Below w.heap.size w w' := by
  have H := Lib.hid h
  have HS := Lib.hid hs
  clear h hs
  go_enter Tryz.func96, Tryz.ntmps96
  go_wp2
  go_loopw [3, 8] (fun v i wr => ∃ (k : Nat) (G : Option Addr) (gc : Nat), k ≤ l.length ∧ i = .int .i64 (k : Int) ∧ v = .slice G k gc ∧ wr.ownsRow w.heap.size 3 1 (.slice G k gc) k (Pack.i64s (lin (l.take k))) ∧ Below w.heap.size w wr) (fun _ i _ => l.length - (intOf i).toNat)
  case atStart => exact ⟨0, none, 0, Nat.zero_le _, rfl, rfl, World.ownsRow_nil _ _ _ _, Below.refl _ _⟩
  case round =>
    obtain ⟨k, G, gc, hk, rfl, rfl, hown, hbel⟩ := hrel
    have HOW := Lib.hid hown
    have HBW := Lib.hid hbel
    by_cases hlt : k < l.length
    · have HI := Lib.hid (i64s_lin hlt)
      obtain ⟨hc0, hc1⟩ := (H.out.keep hbel).at' k hlt
      have hxs := HS.out _ (List.getElem_mem hlt)
      have hsz := hbel.size
      have hgl := H.out.lt
      clear hown hbel
      generalize l[k] = p at *
      obtain ⟨x, y⟩ := p
      simp only at hc0 hc1 hxs HI
      obtain ⟨i1, hi1, hy0, hy1, hy2⟩ := info_parts Pm.int_info
      have hi0 : (0 : Int) ≤ (k : Int) := by omega
      have hi2 : (k : Int) < (l.length : Int) := by omega
      have HO := Lib.hid ((HOW.out.alloc (.cells #[.int .i64 (x : Int), .int .u64 (y : Int)] 134)).alloc (.cells #[.int .i64 ((x : Int) / 8)] 3))
      have HB := Lib.hid ((HBW.out.alloc HBW.out.size (.cells #[.int .i64 (x : Int), .int .u64 (y : Int)] 134)).alloc (by have := HBW.out.size; simp; omega) (.cells #[.int .i64 ((x : Int) / 8)] 3))
      go_wp2_with (at_builtin
                   refine wpList_append_own_at _ rfl (.tmp 12) (.tmp 16) 50 rfl w.heap.size 3 i1 (.int .i64 0) 1 8 Tryz.underlying50 hi1 hy0 hy1 hy2 rfl (by decide) (.slice G k gc) k (Pack.i64s (lin (l.take k))) rfl HO.out ⟨wr.heap.size + 1, 0, none⟩ 1 1 [.int .i64 ((x : Int) / 8)] rfl rfl (Pm.cell_one_new2 _ _ _ _) (by simp [Value.oneCell']) (by unfold maxLen; omega) (by omega) (by simp; omega) ?_
                   intro v' w3 hown3 hgr3 _ hat3
                   obtain ⟨G3, c3, rfl⟩ := Pack.row_slice hown3
                   have HO3 := Lib.hid hown3
                   have HB3 := Lib.hid (HB.out.grown hgr3 (by simp; omega) (fun k hk => Pack.row_base_lt HOW.out hk))
                   clear hown3 hgr3 hat3)
      refine ⟨⟨k + 1, G3, c3, by omega, by go_num, rfl, ?_, HB3.out⟩, by simp [intOf]; omega⟩
      rw [HI.out]
      exact HO3.out
    · obtain rfl : k = l.length := by omega
      rw [List.take_length] at hown
      have HC := Lib.hid (compact_any hown hbel.size hl)
      clear hown hbel HOW
      go_wp2_with fail
      refine HC.out.mono ?_
      rintro r w3 ⟨G', c', rfl, hown, hb⟩
      have HI := Lib.hid (ints_own (w0 := w) hown)
      have HB := Lib.hid (HBW.out.trans hb)
      clear hown hb HC
      go_wp2
      go_ret
      exact ⟨G', c', rfl, HI.out, HB.out⟩
end Vol
end Go.Proofs.YtilolepbfmcbgaaGreatDoor
/- The medium's write: words are stored, then their lines are flushed. -/
namespace Go.Proofs.YtilolepbfmcbgaaGreatDoor
open Go.RowKit Go.MapKept
namespace Vol
section
variable {Q : Nat → Prop} {w : World} {a : Nat} {W : List Nat} {st sn : Nat}

/-- behind k stores -/
structure Wr (Q : Nat → Prop) (w : World) (a b g : Nat) (W : List Nat) (st sn : Nat) (l : List (Nat × Nat)) (w' : World) : Prop where
  up : Up Q w' a W st sn
  kq : Kq Q w w'
  box : Bx w' b a
  sts : Sts w' g l

theorem Ints.kq {w0 w1 w2 : World} {G : Option Addr} {l : List Int} (h : Ints w0 w1 G l) (hk : Kq Q w1 w2) (hq : ∀ k, w0.heap.size ≤ k → k < w1.heap.size → Q k) : Ints w0 w2 G l := by
  intro j hj
  obtain ⟨g, e, h1, h2, hc⟩ := h j hj
  have hb := hk.at (hq g h1 h2) h2
  exact ⟨g, e, h1, Nat.lt_of_lt_of_le h2 hk.size, (World.cell?_of_block (w := w1) hb).trans hc⟩
/-- behind k lines -/
structure Wl (Q : Nat → Prop) (w0 w : World) (a b : Nat) (W : List Nat) (st sn : Nat) (G : Option Addr) (l : List Int) (w' : World) : Prop where
  up : Up Q w' a W st sn
  kq : Kq Q w w'
  box : Bx w' b a
  ints : Ints w0 w' G l

set_option maxHeartbeats 4000000 in
set_option maxRecDepth 100000 in
theorem write_any (h : Up Q w a W st sn) (g c : Nat) (l : List (Nat × Nat)) (hg : Sts w g l) (hq : Q g) (hW : ∀ p ∈ l, p.1 < W.length ∧ p.2 < 18446744073709551616) (hs : st + 2 * l.length < 100000000000) (hln : l.length ≤ 4194304) :
    Calls Tryz.prog 62 #[.agg #[.pointer (some ⟨a, 0, none⟩)], .slice (some ⟨g, 0, none⟩) l.length c] w fun r w' =>
      r = .returned (.int .i64 0) ∧ Up Q w' a (puts W l) (st + l.length + (lns l).length) (sn + l.length) ∧ Kq Q w w' := by
  have hl : l.length < 100000000000 := by omega
  have hsz := h.size
  have HU := Lib.hid h.u64
  have HW := Lib.hid hW
  have hb0 := (Below.refl w.heap.size w).alloc (Nat.le_refl _) (.cells #[.pointer (some ⟨a, 0, none⟩)] 113)
  have HX := Lib.hid (bx_new w a 113)
  have HG := Lib.hid (hg.keep hb0)
  have HUP := Lib.hid (h.grow hb0)
  have HB0 := Lib.hid hb0
  have HQ := Lib.hid hq
  have HZ := Lib.hid (World.size_alloc w (.cells #[.pointer (some ⟨a, 0, none⟩)] 113))
  clear h hg hq hW hb0
  go_enter Tryz.func62, Tryz.ntmps62
  go_wp2
  generalize w.alloc (.cells #[.pointer (some ⟨a, 0, none⟩)] 113) = w1 at *
  obtain ⟨Q1, hQ1⟩ : ∃ Q1 : Nat → Prop, Q1 = fun k => Q k ∨ (w.heap.size ≤ k ∧ k < w1.heap.size) := ⟨_, rfl⟩
  rw [← hQ1] at HUP
  have HQS := Lib.hid (show ∀ k, Q k → Q1 k by rw [hQ1]; exact fun k h => .inl h)
  have HQB := Lib.hid (show Q1 w.heap.size by rw [hQ1]; exact .inr ⟨Nat.le_refl _, HX.out.lt⟩)
  have HQG := Lib.hid (HQS.out _ HQ.out)
  clear hQ1
  have HR := Lib.hid (show Wr Q1 w1 a w.heap.size g (puts W (l.take 0)) (st + 0) (sn + 0) l w1 from ⟨HUP.out, Pm.Off.refl _ _, HX.out, HG.out⟩)
  clear HUP HX HG
  go_loopw [11] (fun i wr => ∃ (k : Nat), k ≤ l.length ∧ i = .int .i64 (k : Int) ∧ Wr Q1 w1 a w.heap.size g (puts W (l.take k)) (st + k) (sn + k) l wr) (fun i _ => l.length - (intOf i).toNat)
  case atStart => exact ⟨0, Nat.zero_le _, rfl, HR.out⟩
  case round =>
    obtain ⟨k, hk, rfl, hrs⟩ := hrel
    have HS := Lib.hid hrs
    clear hrs HR
    by_cases hlt : k < l.length
    · obtain ⟨hc0, hc1⟩ := HS.out.sts.at' k hlt
      have hbx := HS.out.box.c0
      have hgl := HS.out.sts.lt
      have hbl := HS.out.box.lt
      obtain ⟨hw1, hw2⟩ := HW.out _ (List.getElem_mem hlt)
      have HP := Lib.hid (puts_step W l k hlt)
      generalize l[k] = p at *
      obtain ⟨x, y⟩ := p
      simp only at hc0 hc1 hw1 hw2 HP
      have hb := (Below.refl wr.heap.size wr).alloc (Nat.le_refl _) (.cells #[.int .i64 (x : Int), .int .u64 (y : Int)] 134)
      have hup := HS.out.up.keep hb
      have HC := Lib.hid (up_store hup x y (by rw [puts_len]; exact hw1) hw2 (by omega))
      have HB := Lib.hid hb
      have HX := Lib.hid (HS.out.box.keep hb)
      have HG := Lib.hid (HS.out.sts.keep hb)
      have hi0 : (0 : Int) ≤ (k : Int) := by omega
      have hi1 : (k : Int) < (l.length : Int) := by omega
      clear hup hb
      go_wp2_with fail
      refine HC.out.mono ?_
      rintro e w2 ⟨rfl, hu2, hk2⟩
      have HS2 := Lib.hid (show Wr Q1 w1 a w.heap.size g (puts W (l.take (k + 1))) (st + (k + 1)) (sn + (k + 1)) l w2 from
        ⟨by rw [HP.out]; exact hu2, HS.out.kq.trans ((kq_below HB.out).trans hk2), HX.out.kq hk2 HQB.out, HG.out.kq hk2 HQG.out⟩)
      clear hu2 hk2 HC
      go_wp2
      refine ⟨⟨k + 1, by omega, by go_num, HS2.out⟩, by simp [intOf]; omega⟩
    · obtain rfl : k = l.length := by omega
      obtain ⟨wo, hwo⟩ : ∃ wo, wo = wr := ⟨_, rfl⟩
      rw [← hwo] at HS ⊢
      clear hwo
      have HC := Lib.hid (linesOf_any wo g c l HS.out.sts hln (fun p hp => by have := (HW.out p hp).1; omega))
      go_wp2_with fail
      refine HC.out.mono ?_
      rintro r w3 ⟨G, gc, rfl, hin, hb⟩
      rw [List.take_length] at HS
      obtain ⟨Q2, hQ2⟩ : ∃ Q2 : Nat → Prop, Q2 = fun k => Q1 k ∨ (wo.heap.size ≤ k ∧ k < w3.heap.size) := ⟨_, rfl⟩
      have hup := HS.out.up.grow hb
      rw [← hQ2] at hup
      have HQ2 := Lib.hid (show ∀ k, Q1 k → Q2 k by rw [hQ2]; exact fun k h => .inl h)
      have HQL := Lib.hid (show ∀ k, wo.heap.size ≤ k → k < w3.heap.size → Q2 k by rw [hQ2]; exact fun k h1 h2 => .inr ⟨h1, h2⟩)
      clear hQ2
      have HL := Lib.hid (show Wl Q2 wo w3 a w.heap.size (puts W l) (st + l.length + 0) (sn + l.length) G (lns l) w3 from ⟨hup, Pm.Off.refl _ _, HS.out.box.keep hb, hin⟩)
      have HIN := Lib.hid hin
      have HKA := Lib.hid (HS.out.kq.trans (kq_below hb))
      have HM := Lib.hid (lns_mem l)
      have hml := lns_le l
      clear hup hin hb HC HS
      obtain ⟨L, hL⟩ : ∃ L, L = lns l := ⟨_, rfl⟩
      rw [← hL] at HL HM hml HIN
      have HLL := Lib.hid hL
      rw [← hL]
      clear hL
      go_wp2
      go_loopw [27] (fun i ww => ∃ (j : Nat), j ≤ L.length ∧ i = .int .i64 (j : Int) ∧ Wl Q2 wo w3 a w.heap.size (puts W l) (st + l.length + j) (sn + l.length) G L ww) (fun i _ => L.length - (intOf i).toNat)
      case atStart => exact ⟨0, Nat.zero_le _, rfl, HL.out⟩
      case round =>
        obtain ⟨j, hj, rfl, hrs⟩ := hrel
        have HS := Lib.hid hrs
        clear hrs HL
        by_cases hjl : j < L.length
        · obtain ⟨g', rfl, hg1, hg2, hcl⟩ := HS.out.ints j hjl
          obtain ⟨p, hp, hpe⟩ := HM.out _ (List.getElem_mem hjl)
          have hpl := (HW.out p hp).1
          rw [hpe] at hcl
          clear hpe hp
          generalize hq : p.1 / 8 = q at *
          have HC := Lib.hid (up_flush HS.out.up q (by rw [puts_len]; omega) (by omega))
          have hbx := HS.out.box.c0
          have hbl := HS.out.box.lt
          have hi0 : (0 : Int) ≤ (j : Int) := by omega
          have hi1 : (j : Int) < (L.length : Int) := by omega
          clear hq hpl
          go_wp2_with fail
          refine HC.out.mono ?_
          rintro e w5 ⟨rfl, hu5, hk5⟩
          have HS5 := Lib.hid (show Wl Q2 wo w3 a w.heap.size (puts W l) (st + l.length + (j + 1)) (sn + l.length) (some ⟨g', 0, none⟩) L w5 from
            ⟨hu5, HS.out.kq.trans hk5, HS.out.box.kq hk5 (HQ2.out _ HQB.out), ?_⟩)
          · clear hu5 hk5 HC
            go_wp2
            refine ⟨⟨j + 1, by omega, by go_num, HS5.out⟩, by simp [intOf]; omega⟩
          · exact HIN.out.kq (HS.out.kq.trans hk5) HQL.out
        · obtain rfl : j = L.length := by omega
          go_wp2
          go_ret
          refine ⟨rfl, by rw [← HLL.out]; exact HS.out.up.sub (fun k h => HQ2.out k (HQS.out k h)), ?_⟩
          exact (kq_below HB0.out).trans ((HKA.out.sub HQS.out).trans (HS.out.kq.sub (fun k h => HQ2.out k (HQS.out k h))))
end
end Vol
end Go.Proofs.YtilolepbfmcbgaaGreatDoor
/- A volume: Open, Geometry, Device. -/
namespace Go.Proofs.YtilolepbfmcbgaaGreatDoor
open Go.RowKit Go.MapKept
namespace Vol
section
variable {Q Q' : Nat → Prop} {w w' : World} {vb a n m s : Nat} {W : List Nat} {st sn : Nat}

/-- a volume in block vb, over the device in block a: its geometry, its words, its device's steps and stores -/
structure Vo (Q : Nat → Prop) (w : World) (vb a n m s : Nat) (W : List Nat) (st sn : Nat) : Prop where
  vol : w.heap[vb]? = some (.cells #[.pointer (some ⟨a, 0, none⟩), .int .i64 (n : Int), .int .i64 (m : Int), .int .i64 (s : Int)] 115 (0, 0))
  q : Q vb
  up : Up Q w a W st sn
  may : Geo.may n m s = true
  len : (W.length : Int) = Geo.fin n m s
theorem Vo.lt (h : Vo Q w vb a n m s W st sn) : vb < w.heap.size := Pm.lt_of_some h.vol
theorem Vo.keep (h : Vo Q w vb a n m s W st sn) (hb : Below w.heap.size w w') : Vo Q w' vb a n m s W st sn := ⟨(hb.block vb h.lt).trans h.vol, h.q, h.up.keep hb, h.may, h.len⟩
theorem Vo.grow (h : Vo Q w vb a n m s W st sn) (hb : Below w.heap.size w w') : Vo (fun k => Q k ∨ (w.heap.size ≤ k ∧ k < w'.heap.size)) w' vb a n m s W st sn := ⟨(hb.block vb h.lt).trans h.vol, .inl h.q, h.up.grow hb, h.may, h.len⟩
theorem Vo.sub (h : Vo Q w vb a n m s W st sn) (hs : ∀ k, Q' k → Q k) (hq : Q' vb) : Vo Q' w vb a n m s W st sn := ⟨h.vol, hq, h.up.sub hs, h.may, h.len⟩
theorem Vo.cells (h : Vo Q w vb a n m s W st sn) : w.cell? ⟨vb, 0, none⟩ = some (.pointer (some ⟨a, 0, none⟩)) ∧ w.cell? ⟨vb, 1, none⟩ = some (.int .i64 (n : Int)) ∧ w.cell? ⟨vb, 2, none⟩ = some (.int .i64 (m : Int)) ∧ w.cell? ⟨vb, 3, none⟩ = some (.int .i64 (s : Int)) :=
  ⟨Pm.blk_cell h.vol 0, Pm.blk_cell h.vol 1, Pm.blk_cell h.vol 2, Pm.blk_cell h.vol 3⟩
/-- behind a device's call -/
theorem Vo.next (h : Vo Q w vb a n m s W st sn) {W' : List Nat} {st' sn' : Nat} (hu : Up Q w' a W' st' sn') (hk : Kq Q w w') (hl : W'.length = W.length) : Vo Q w' vb a n m s W' st' sn' :=
  ⟨(hk.at h.q h.lt).trans h.vol, h.q, hu, h.may, by rw [hl]; exact h.len⟩

theorem up_read (h : Up Q w a W st sn) (hm : Geo.may n m s = true) (hl : (W.length : Int) = Geo.fin n m s) (h8 : rdw W 0 8 = Sup.sb n m s) :
    Calls Tryz.prog 78 #[.pointer (some ⟨a, 0, none⟩)] w fun r w' => r = .returned (.tuple #[.agg #[.int .i64 (n : Int), .int .i64 (m : Int), .int .i64 (s : Int)], .int .i64 0]) ∧ Below w.heap.size w w' := by
  obtain ⟨A, hv, _, hw, h64, _⟩ := h
  have hu : Sup.U64 A.words := by
    intro x hx
    rw [hw] at hx
    obtain ⟨y, hy, rfl⟩ := List.mem_map.1 hx
    have := h64 y hy
    simp only [Int.ofNat_eq_natCast]
    omega
  have hr := Sup.read_any hv.ses hu
  have e : Sup.rd A = rdw W 0 8 := by
    refine List.ext_getElem (by rw [Sup.rd_len, rdw_len]) (fun i h1 h2 => ?_)
    rw [rdw_get]
    have h3 : i < 8 := by rwa [Sup.rd_len] at h1
    have := Sup.rd_get A h3
    rw [List.getElem?_eq_getElem h1] at this
    refine Eq.trans (b := (A.words[i]?.getD 0).toNat) (by simpa using this) ?_
    rw [hw, List.getElem?_map, Nat.zero_add]
    cases W[i]? with
    | none => rfl
    | some y => simp
  have hon : Sup.ron (Sup.rd A) A.words.length = some (n, m, s) := by
    rw [e, h8]
    unfold Sup.ron
    rw [Sup.dec_sb hm]
    simp only
    rw [if_pos (by rw [hw, List.length_map]; exact hl.symm)]
  rw [hon] at hr
  exact hr

set_option maxHeartbeats 4000000 in
set_option maxRecDepth 100000 in
theorem open_any (h : Up Q w a W st sn) (hm : Geo.may n m s = true) (hl : (W.length : Int) = Geo.fin n m s) (h8 : rdw W 0 8 = Sup.sb n m s) :
    Calls Tryz.prog 36 #[.pointer (some ⟨a, 0, none⟩)] w fun r w' => ∃ vb, r = .returned (.tuple #[.pointer (some ⟨vb, 0, none⟩), .int .i64 0]) ∧ w.heap.size ≤ vb ∧
      Vo (fun k => Q k ∨ (w.heap.size ≤ k ∧ k < w'.heap.size)) w' vb a n m s W st sn ∧ Below w.heap.size w w' := by
  have HC := Lib.hid (up_read h hm hl h8)
  have H := Lib.hid h
  have HM := Lib.hid hm
  have HL := Lib.hid hl
  clear h hm hl h8
  go_enter Tryz.func36, Tryz.ntmps36
  go_wp2_with fail
  refine HC.out.mono ?_
  rintro r w1 ⟨rfl, hb⟩
  have HB := Lib.hid hb
  clear hb HC
  go_wp2
  go_ret2
  have hb0 := HB.out.alloc HB.out.size (.cells #[.int .i64 (n : Int), .int .i64 (m : Int), .int .i64 (s : Int)] 85)
  have hz := World.size_alloc w1 (.cells #[.int .i64 (n : Int), .int .i64 (m : Int), .int .i64 (s : Int)] 85)
  generalize w1.alloc (.cells #[.int .i64 (n : Int), .int .i64 (m : Int), .int .i64 (s : Int)] 85) = w2 at *
  have hb1 := hb0.alloc hb0.size (.cells #[.pointer (some ⟨a, 0, none⟩), .int .i64 (n : Int), .int .i64 (m : Int), .int .i64 (s : Int)] 115)
  refine ⟨w1.heap.size + 1, rfl, Nat.le_succ_of_le HB.out.size, ⟨?_, .inr ⟨Nat.le_succ_of_le HB.out.size, by simp; omega⟩, H.out.grow hb1, HM.out, HL.out⟩, hb1⟩
  have := (heap_alloc w2 (.cells #[.pointer (some ⟨a, 0, none⟩), .int .i64 (n : Int), .int .i64 (m : Int), .int .i64 (s : Int)] 115)).1
  rw [hz] at this
  exact this

set_option maxHeartbeats 4000000 in
set_option maxRecDepth 100000 in
theorem geometry_any (h : Vo Q w vb a n m s W st sn) : Calls Tryz.prog 37 #[.pointer (some ⟨vb, 0, none⟩)] w fun r w' => r = .returned (.agg #[.int .i64 (n : Int), .int .i64 (m : Int), .int .i64 (s : Int)]) ∧ Below w.heap.size w w' := by
  obtain ⟨c0, c1, c2, c3⟩ := h.cells
  have hlt := h.lt
  clear h
  go_enter Tryz.func37, Tryz.ntmps37
  go_wp2
  refine bodyPost_ret (v := .agg #[.int .i64 (n : Int), .int .i64 (m : Int), .int .i64 (s : Int)]) ?_ rfl ⟨rfl, ?_⟩
  · simp [results, Tryz.results37, go_sem]
  · exact (Below.refl _ _).alloc (Nat.le_refl _) _
theorem device_any (h : Vo Q w vb a n m s W st sn) : Calls Tryz.prog 12 #[.pointer (some ⟨vb, 0, none⟩)] w fun r w' => r = .returned (.pointer (some ⟨a, 0, none⟩)) ∧ w = w' := by
  obtain ⟨c0, c1, c2, c3⟩ := h.cells
  have hlt := h.lt
  clear h
  go_enter Tryz.func12, Tryz.ntmps12
  go_wp2
  go_ret
  exact ⟨rfl, rfl⟩
theorem isNone_any (w : World) (p : Int) : Calls Tryz.prog 60 #[.int .i64 p] w fun r w' => r = .returned (.bool (decide (p < 0))) ∧ w = w' := by
  go_enter Tryz.func60, Tryz.ntmps60
  go_wp2
  go_ret
  exact ⟨rfl, rfl⟩
end
end Vol
end Go.Proofs.YtilolepbfmcbgaaGreatDoor
