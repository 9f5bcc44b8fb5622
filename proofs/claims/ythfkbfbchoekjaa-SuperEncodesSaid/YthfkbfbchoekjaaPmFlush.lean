/- The device's Flush and Fence. -/
import Derived.Test.YthfkbfbchoekjaaPmAbs
namespace Go.Proofs.Ythfkbfbchoekjaa
open Go.RowKit Go.MapKept
namespace Pm

def Abs.marks (A : Abs) (i : Nat) : Nat → Abs
  | 0 => A
  | n + 1 => (A.marks i n).mark (i + n)
def Abs.flush (A : Abs) (line : Nat) : Abs := A.step.marks (8 * line) (min 8 (A.words.length - 8 * line))

theorem mark_words (A : Abs) (k : Nat) : (A.mark k).words = A.words := by
  unfold Abs.mark; split <;> rfl
theorem marks_words (A : Abs) (i : Nat) : ∀ n, (A.marks i n).words = A.words
  | 0 => rfl
  | n + 1 => by rw [Abs.marks, mark_words, marks_words A i n]
theorem marks_ok {A : Abs} (h : A.Ok) (i : Nat) : ∀ n, (A.marks i n).Ok
  | 0 => h
  | n + 1 => mark_ok (marks_ok h i n) (i + n)
theorem flush_ok {A : Abs} (h : A.Ok) (line : Nat) (hs : A.steps + 1 < 100000000000) : (A.flush line).Ok := marks_ok (step_ok h hs) _ _

section
variable {w : World} {a : Nat} {D : Dev}

theorem flush_neg (line : Int) (hl : line < 0) : Calls Try.prog 38 #[.pointer (some ⟨a, 0, none⟩), .int .i64 line] w fun r w' => r = .returned (.bool false) ∧ w = w' := by
  go_enter Try.func38, Try.ntmps38
  go_wp2
  go_ret
  exact ⟨rfl, rfl⟩

theorem flush_far (h : Rep w a D) (line : Nat) (hl : (D.words.length + 7) / 8 ≤ line) (hw : D.words.length ≤ 4194304) : Calls Try.prog 38 #[.pointer (some ⟨a, 0, none⟩), .int .i64 (line : Int)] w fun r w' => r = .returned (.bool false) ∧ w = w' := by
  have c4 := h.c4
  obtain ⟨n, hn⟩ : ∃ n, n = D.words.length := ⟨_, rfl⟩
  rw [← hn] at c4 hl hw
  clear hn h
  have g1 : ((n : Int) + 8 - 1) / 8 ≤ (line : Int) := by omega
  clear hl
  go_enter Try.func38, Try.ntmps38
  go_wp2
  go_ret
  exact ⟨rfl, rfl⟩

theorem flush_down (h : Rep w a D) (line : Nat) (hl : line < (D.words.length + 7) / 8) (hw : D.words.length ≤ 4194304) (hd : D.down = true) : Calls Try.prog 38 #[.pointer (some ⟨a, 0, none⟩), .int .i64 (line : Int)] w fun r w' => r = .returned (.bool false) ∧ w = w' := by
  have c4 := h.c4
  have HS := Lib.hid (step_no h hd)
  obtain ⟨n, hn⟩ : ∃ n, n = D.words.length := ⟨_, rfl⟩
  rw [← hn] at c4 hl hw
  clear hn h hd
  have g1 : (line : Int) < ((n : Int) + 8 - 1) / 8 := by omega
  clear hl
  go_enter Try.func38, Try.ntmps38
  go_wp2_with (go_at_call 33; refine HS.out.mono ?_; rintro e w' ⟨rfl, rfl⟩)
  go_ret
  exact ⟨rfl, rfl⟩

/-- the loop's relation -/
def FlushRel (w : World) (a : Nat) (D : Dev) (line : Nat) (n : Nat) (wr : World) : Prop :=
  ∃ D' : Dev, Res w a D wr D' ∧ D'.abs = D.abs.step.marks (8 * line) n ∧ D'.wb = D.wb ∧ D'.words.length = D.words.length

theorem mark_at (h : Rep w a D) (ok : D.abs.Ok) (i : Int) (k : Nat) (hi : i = (k : Int)) : Calls Try.prog 56 #[.pointer (some ⟨a, 0, none⟩), .int .i64 i] w fun r w' =>
    r = .returned (.tuple #[]) ∧ ∃ D', Res w a D w' D' ∧ D'.abs = D.abs.mark k ∧ D'.wb = D.wb := by
  subst hi
  exact mark_any h ok k

theorem flush_step {wr : World} {line n : Nat} (ok : D.abs.Ok) (hs : D.steps + 1 < 100000000000) (h : FlushRel w a D line n wr) (i : Int) (hi : i = ((8 * line + n : Nat) : Int)) :
    Calls Try.prog 56 #[.pointer (some ⟨a, 0, none⟩), .int .i64 i] wr fun r w' => r = .returned (.tuple #[]) ∧ FlushRel w a D line (n + 1) w' := by
  obtain ⟨D', hres, habs, hwb, hlen⟩ := h
  have ok' : D'.abs.Ok := by rw [habs]; exact marks_ok (step_ok ok hs) _ _
  refine (mark_at hres.rep ok' i _ hi).mono fun r w' ⟨hr, D2, hres2, habs2, hwb2⟩ => ⟨hr, D2, hres.trans hres2, ?_, hwb2.trans hwb, ?_⟩
  · rw [habs2, habs]; rfl
  · have : D2.abs.words = D'.abs.words := by rw [habs2, mark_words]
    have : D2.words = D'.words := this
    rw [this, hlen]

theorem flush_c4 {wr : World} {line n : Nat} (h : FlushRel w a D line n wr) : wr.cell? ⟨a, 4, none⟩ = some (.slice (some ⟨D.wb, 0, none⟩) D.words.length D.words.length) := by
  obtain ⟨D', hres, habs, hwb, hlen⟩ := h
  rw [hres.rep.c4, hwb, hlen]

set_option maxHeartbeats 1600000 in
set_option maxRecDepth 100000 in
theorem flush_yes (h : Rep w a D) (ok : D.abs.Ok) (hd : D.abs.down = false) (line : Nat) (hl : 8 * line < D.words.length) (hs : D.steps + 1 < 100000000000) :
    Calls Try.prog 38 #[.pointer (some ⟨a, 0, none⟩), .int .i64 (line : Int)] w fun r w' => r = .returned (.bool true) ∧ ∃ D', Res w a D w' D' ∧ D'.abs = D.abs.flush line := by
  have c4 := h.c4
  have hw : D.words.length ≤ 4194304 := ok.size
  have HS := Lib.hid (step_yes h hd (by omega) ok.fuse)
  have HF := fun wr n (x : FlushRel w a D line n wr) => flush_step ok hs x
  have HFS := Lib.hid HF
  have HC := Lib.hid (fun wr n (x : FlushRel w a D line n wr) => flush_c4 x)
  have hfl : D.abs.flush line = D.abs.step.marks (8 * line) (min 8 (D.words.length - 8 * line)) := rfl
  rw [hfl]
  obtain ⟨L, hL⟩ : ∃ L, L = D.words.length := ⟨_, rfl⟩
  rw [← hL] at c4 hw hl HC ⊢
  have g1 : decide ((line : Int) < 0) = false := by simp
  have g2 : decide (((L : Int) + 8 - 1) / 8 ≤ (line : Int)) = false := by simp; omega
  have H := Lib.hid h
  have HHL := Lib.hid hL
  clear h hd ok HF hL hfl
  go_enter Try.func38, Try.ntmps38
  go_wp2_with (go_at_call 33; refine HS.out.mono ?_; rintro e w1 ⟨rfl, hr1, ho1, hz1⟩
               have HR1 := Lib.hid (step_res hr1 ho1)
               clear hr1 ho1 hz1)
  go_loopw [6] (fun i wr => ∃ n : Nat, n ≤ min 8 (L - 8 * line) ∧ i = .int .i64 ((line : Int) * 8 + (n : Int)) ∧ FlushRel w a D line n wr) (fun i _ => (8 * line + 8) - (intOf i).toNat)
  case atStart => exact ⟨0, Nat.zero_le _, by simp, D.stepped, HR1.out, rfl, rfl, rfl⟩
  case round =>
    obtain ⟨n, hn, rfl, hrel⟩ := hrel
    have k4 := HC.out _ _ hrel
    have HREL := Lib.hid hrel
    clear hrel
    by_cases hq : L < 8 * line + 8
    · by_cases hlt : 8 * line + n < L
      · go_wp2_with (go_at_call 56; refine (HFS.out _ _ HREL.out _ (by omega)).mono ?_; rintro e w2 ⟨rfl, hr2⟩; have HR2 := Lib.hid hr2; clear hr2)
        go_roundw
        case rel => exact ⟨n + 1, by omega, by go_num, HR2.out⟩
        case measure => simp [intOf]; omega
      · go_wp2
        go_ret
        obtain ⟨D', hres, habs, _⟩ := HREL.out
        exact ⟨rfl, D', hres, by rw [habs, show min 8 (L - 8 * line) = n by omega]⟩
    · by_cases hlt : n < 8
      · go_wp2_with (go_at_call 56; refine (HFS.out _ _ HREL.out _ (by omega)).mono ?_; rintro e w2 ⟨rfl, hr2⟩; have HR2 := Lib.hid hr2; clear hr2)
        go_roundw
        case rel => exact ⟨n + 1, by omega, by go_num, HR2.out⟩
        case measure => simp [intOf]; omega
      · go_wp2
        go_ret
        obtain ⟨D', hres, habs, _⟩ := HREL.out
        exact ⟨rfl, D', hres, by rw [habs, show min 8 (L - 8 * line) = n by omega]⟩

def Abs.settles (A : Abs) : List Nat → Abs
  | [] => A
  | k :: r => (A.settle k).settles r
def Abs.fence (A : Abs) : Abs := { A.step.settles A.marked with marked := [] }
theorem settles_snoc (k : Nat) : ∀ (l : List Nat) (A : Abs), A.settles (l ++ [k]) = (A.settles l).settle k
  | [], _ => rfl
  | x :: r, A => settles_snoc k r (A.settle x)
theorem settle_marked (A : Abs) (k : Nat) : (A.settle k).marked = A.marked := by
  unfold Abs.settle
  split
  · rfl
  · split <;> rfl
theorem settles_ok : ∀ (l : List Nat) {M : List Nat} {A : Abs}, A.OkM (l ++ M) → (A.settles l).OkM M
  | [], _, _, h => h
  | _ :: r, _, _, h => settles_ok r (settle_ok h)
theorem fence_ok {A : Abs} (h : A.Ok) (hs : A.steps + 1 < 100000000000) : A.fence.Ok := by
  have h1 : A.step.OkM (A.marked ++ []) := by rw [List.append_nil]; exact step_ok h hs
  have h2 := settles_ok A.marked h1
  exact ⟨h2.keys, h2.ent, h2.mk0, h2.mk1, h2.mk2, h2.size, h2.cnt, h2.few, h2.fuse⟩

def FenceRel (w : World) (a : Nat) (D : Dev) (n : Nat) (wr : World) : Prop :=
  ∃ D' : Dev, Res w a D wr D' ∧ D'.abs = D.abs.step.settles (D.marked.take n) ∧ D'.marked = D.marked ∧ D'.mka = D.mka ∧ D'.mkc = D.mkc

theorem fence_step {wr : World} {n k : Nat} (ok : D.abs.Ok) (hs : D.steps + 1 < 100000000000) (h : FenceRel w a D n wr) (hn : n < D.marked.length) (hk : D.marked[n] = k) :
    Calls Try.prog 57 #[.pointer (some ⟨a, 0, none⟩), .int .i64 (k : Int)] wr fun r w' => r = .returned (.tuple #[]) ∧ FenceRel w a D (n + 1) w' := by
  obtain ⟨D', hres, habs, h1, h2, h3⟩ := h
  have hd : D.marked.drop n = k :: D.marked.drop (n + 1) := by rw [List.drop_eq_getElem_cons hn, hk]
  have ok' : D'.abs.OkM (k :: D.marked.drop (n + 1)) := by
    rw [habs, ← hd]
    refine settles_ok _ ?_
    rw [List.take_append_drop]
    exact step_ok ok hs
  refine (settle_any hres.rep k ok').mono fun r w' ⟨hr, D2, hres2, habs2, e1, e2, e3⟩ => ⟨hr, D2, hres.trans hres2, ?_, e3.trans h1, e1.trans h2, e2.trans h3⟩
  rw [habs2, habs, List.take_add_one, List.getElem?_eq_getElem hn, hk, Option.toList_some, settles_snoc]

theorem fence_cell {wr : World} {n k g : Nat} (h : FenceRel w a D n wr) (hn : n < D.marked.length) (hk : D.marked[n] = k) (hg : D.mka = some ⟨g, 0, none⟩) : wr.cell? ⟨g, n, none⟩ = some (.int .i64 (k : Int)) := by
  obtain ⟨D', hres, habs, h1, h2, h3⟩ := h
  rcases hres.rep.mrk.2 with ⟨e, h0⟩ | ⟨g', cap, cur, e, _, hb, _, _, hsz, ht⟩
  · rw [h1] at h0; omega
  · simp only [Dev.mkv, h2, hg] at e
    injection e with e
    injection e with e
    injection e with e
    subst e
    rw [blk_cell hb]
    have := congrArg (·[n]?) ht
    simp only [h1, Nat.mul_one, i64s] at this
    rw [List.getElem?_take, if_pos hn, List.getElem?_map, List.getElem?_eq_getElem hn, hk] at this
    rw [← Array.getElem?_toList]
    exact this
theorem fence_c6 {wr : World} {n : Nat} (h : FenceRel w a D n wr) : wr.cell? ⟨a, 6, none⟩ = some (.slice D.mka D.marked.length D.mkc) ∧ wr.frozen? ⟨a, 6, none⟩ = false := by
  obtain ⟨D', hres, habs, h1, h2, h3⟩ := h
  rw [hres.rep.c6, h1, h2, h3]
  exact ⟨rfl, hres.rep.frozen 6⟩

theorem own_len (A : Option Addr) (n m c : Nat) : (Value.slice A n c).ownBlock = (Value.slice A m c).ownBlock := by cases A <;> rfl

/-- the marks are gone -/
theorem unmark_res (h : Rep w a D) : Res w a D (w.setCell ⟨a, 6, none⟩ (.slice D.mka 0 D.mkc)) { D with marked := [] } := by
  have hm : w.ownsRow 0 3 1 (.slice D.mka 0 D.mkc) 0 [] := by
    refine ⟨by simp, ?_⟩
    rcases h.mrk.2 with ⟨e, h0⟩ | ⟨g', cap, cur, e, hx, hb, h1, h2, hsz, ht⟩
    · left
      simp only [Dev.mkv] at e
      injection e with e1 e2 e3
      rw [e1, e3]
      exact ⟨rfl, rfl⟩
    · right
      simp only [Dev.mkv] at e
      injection e with e1 e2 e3
      exact ⟨g', cap, cur, by rw [e1, e3], hx, hb, by omega, h2, hsz, by simp⟩
  have hnm : ∀ g, (Value.slice D.mka 0 D.mkc).ownBlock = some g → g ≠ a := fun g hg e => h.ne_mkv (by
    subst e
    rw [← hg]
    exact own_len _ _ _ _)
  refine ⟨⟨?_, ?_, ?_, ?_, ?_, h.nodup, h.keys, h.stamp⟩, (Off.refl _ _).setCell (fun _ => .inl rfl) _, ?_⟩
  · rw [blk_set h.dev 6 _]
    simp [Dev.cells]
  · exact (Below.heap_setCell _ _ _ _ h.ne_wb.symm).trans h.wds
  · exact (Below.heap_setCell _ _ _ _ h.ne_mb.symm).trans h.map
  · exact fun e he => lies_keep (h.ent e he) (Below.heap_setCell _ _ _ _ (h.ne_ent he).symm)
  · exact row_keep hm (fun g hg => Below.heap_setCell _ _ _ _ (hnm g hg))
  · rintro k (rfl | rfl | rfl | hk | hk)
    · exact .inl (.inl rfl)
    · exact .inl (.inr (.inl rfl))
    · exact .inl (.inr (.inr (.inl rfl)))
    · exact .inl (.inr (.inr (.inr (.inl hk))))
    · exact .inl (.inr (.inr (.inr (.inr ((own_len _ _ _ _).trans hk)))))

theorem fence_down (h : Rep w a D) (hd : D.down = true) : Calls Try.prog 39 #[.pointer (some ⟨a, 0, none⟩)] w fun r w' => r = .returned (.bool false) ∧ w = w' := by
  have HS := Lib.hid (step_no h hd)
  clear h hd
  go_enter Try.func39, Try.ntmps39
  go_wp2_with (go_at_call 33; refine HS.out.mono ?_; rintro e w' ⟨rfl, rfl⟩)
  go_ret
  exact ⟨rfl, rfl⟩

theorem fence_end {wr : World} (h : FenceRel w a D D.marked.length wr) : ∃ D', Res w a D (wr.setCell ⟨a, 6, none⟩ (.slice D.mka 0 D.mkc)) D' ∧ D'.abs = D.abs.fence := by
  obtain ⟨D', hres, habs, h1, h2, h3⟩ := h
  have := unmark_res hres.rep
  rw [h2, h3] at this
  refine ⟨_, hres.trans this, ?_⟩
  rw [List.take_length] at habs
  unfold Abs.fence
  rw [show D.abs.marked = D.marked from rfl, ← habs]
  rfl

set_option maxHeartbeats 1600000 in
set_option maxRecDepth 100000 in
theorem fence_yes (h : Rep w a D) (ok : D.abs.Ok) (hd : D.abs.down = false) (hs : D.steps + 1 < 100000000000) :
    Calls Try.prog 39 #[.pointer (some ⟨a, 0, none⟩)] w fun r w' => r = .returned (.bool true) ∧ ∃ D', Res w a D w' D' ∧ D'.abs = D.abs.fence := by
  have HS := Lib.hid (step_yes h hd (by omega) ok.fuse)
  have hml : D.marked.length ≤ 4194304 := ok.marked_le
  have HF := Lib.hid (fun wr n k (x : FenceRel w a D n wr) => fence_step (k := k) ok hs x)
  have HE := Lib.hid (fun wr (x : FenceRel w a D D.marked.length wr) => fence_end x)
  have H6 := Lib.hid (fun wr n (x : FenceRel w a D n wr) => fence_c6 x)
  have HC := Lib.hid (fun wr n k g (x : FenceRel w a D n wr) => fence_cell (k := k) (g := g) x)
  rcases h.mrk.2 with ⟨e, h0⟩ | ⟨g, cap, cur, e, _, _, hcap, _⟩
  · simp only [Dev.mkv] at e
    injection e with e1 e2 e3
    rw [e1, e2, e3] at H6
    rw [e1, e3] at HE
    have HM := Lib.hid e2
    have H := Lib.hid h
    clear h hd ok e1 e2 h0
    go_enter Try.func39, Try.ntmps39
    go_wp2_with (go_at_call 33; refine HS.out.mono ?_; rintro e w1 ⟨rfl, hr1, ho1, hz1⟩
                 have hrel : FenceRel w a D 0 w1 := ⟨D.stepped, step_res hr1 ho1, rfl, rfl, rfl, rfl⟩
                 have k6 := (H6.out _ _ hrel).1
                 have f6 := (H6.out _ _ hrel).2
                 have HR1 := Lib.hid hrel
                 clear hr1 ho1 hz1 hrel)
    go_loopw [15] (fun i wr => i = .int .i64 0 ∧ wr = w1) (fun _ _ => 0)
    case atStart => exact ⟨rfl, rfl⟩
    case round =>
      obtain ⟨rfl, rfl⟩ := hrel
      go_wp2
      go_ret
      exact ⟨rfl, HE.out _ (by rw [HM.out]; exact HR1.out)⟩
  · simp only [Dev.mkv] at e
    injection e with e1 e2 e3
    rw [e1, e3] at HE H6
    have HG := Lib.hid e1
    have H := Lib.hid h
    clear h hd ok e1 e2
    obtain ⟨M, hM⟩ : ∃ M, M = D.marked := ⟨_, rfl⟩
    rw [← hM] at HF HE H6 HC hml hcap
    have HM := Lib.hid hM
    clear hM
    go_enter Try.func39, Try.ntmps39
    go_wp2_with (go_at_call 33; refine HS.out.mono ?_; rintro e w1 ⟨rfl, hr1, ho1, hz1⟩
                 have hrel : FenceRel w a D 0 w1 := ⟨D.stepped, step_res hr1 ho1, rfl, rfl, rfl, rfl⟩
                 have k6 := (H6.out _ _ hrel).1
                 have HR1 := Lib.hid hrel
                 clear hr1 ho1 hz1 hrel)
    go_loopw [15] (fun i wr => ∃ n : Nat, n ≤ M.length ∧ i = .int .i64 (n : Int) ∧ FenceRel w a D n wr) (fun i _ => M.length - (intOf i).toNat)
    case atStart => exact ⟨0, Nat.zero_le _, rfl, HR1.out⟩
    case round =>
      obtain ⟨n, hn, rfl, hrel⟩ := hrel
      have j6 := (H6.out _ _ hrel).1
      have f6 := (H6.out _ _ hrel).2
      by_cases hlt : n < M.length
      · have hce := HC.out _ _ M[n] g hrel hlt rfl HG.out
        have HX := Lib.hid (HF.out _ _ M[n] hrel hlt rfl)
        clear hrel
        go_wp2_with (go_at_call 57; refine HX.out.mono ?_; rintro e w2 ⟨rfl, hr2⟩; have HR2 := Lib.hid hr2; clear hr2)
        go_roundw
        case rel => exact ⟨n + 1, by omega, by go_num, HR2.out⟩
        case measure => simp [intOf]; omega
      · have hnn : n = M.length := by omega
        rw [hnn] at hrel
        have HREL := Lib.hid hrel
        clear hrel hnn
        go_wp2
        go_ret
        exact ⟨rfl, HE.out _ HREL.out⟩
end
end Pm
end Go.Proofs.Ythfkbfbchoekjaa
