/- The device's Copy: a new device with the same words; nothing that was there turns. -/
import Derived.Test.YtlcjnmoicjgaiaaPmCopy
namespace Go.Proofs.Ytlcjnmoicjgaiaa
open Go.RowKit Go.MapKept Go.Maps
namespace Pm

/-- what is known of the copy at block c, its words at block g, its map at block m -/
structure CopyAt (w wr : World) (l : List Int) (c g cap m : Nat) : Prop where
  off : Off (fun _ => False) w wr
  dev : ∃ cs : Array Value, wr.heap[c]? = some (.cells cs 47 (0, 0)) ∧ cs[4]? = some (.slice (some ⟨g, 0, none⟩) l.length cap) ∧ cs[5]? = some (.map (some m))
  wds : Words w.heap.size wr (.slice (some ⟨g, 0, none⟩) l.length cap) l
  map : ∃ es cl, wr.heap[m]? = some (.map es cl) ∧ IntKeys es
  lec : w.heap.size ≤ c
  leg : w.heap.size ≤ g
  lem : w.heap.size ≤ m

/-- what Copy answers -/
def CopyAns (w : World) (l : List Int) (r : Ending) (w' : World) : Prop :=
  ∃ c g cap m, r = .returned (.pointer (some ⟨c, 0, none⟩)) ∧ CopyAt w w' l c g cap m

section
variable {w wr w' : World} {a : Nat} {D : Dev} {l : List Int} {c g cap m : Nat}

theorem ranges_keep {P : Program} {k : TypeId} {R : Value → Option (DataW Unit × List MemPlace)} {b r n : Nat} {D0 : DataW Unit} {left : Lit → Bool} {cnt : Nat} (h : wr.ranges P k R b r n D0 left cnt) (hb : w'.heap[b]? = wr.heap[b]?) (hr : w'.heap[r]? = wr.heap[r]?) :
    w'.ranges P k R b r n D0 left cnt := by
  obtain ⟨es, clock, since, seen, c0, h1, h2, h3, h4, h5, h6⟩ := h
  exact ⟨es, clock, since, seen, c0, hb.trans h1, h2, h3, h4, hr.trans h5, h6⟩

theorem row_base_lt2 {w : World} {B : Nat} {e : TypeId} {n : Nat} {v : Value} {xs : List Value} (h : w.ownsRow B e 1 v n xs) {g : Nat} (hg : v.ownBlock = some g) : B ≤ g ∧ ∃ cur, w.heap[g]? = some (.cells cur e (0, 0)) := by
  rcases h.2 with ⟨e, _⟩ | ⟨g', cap, cur, e, hb, hh, _⟩
  · rw [e] at hg; simp [Value.ownBlock] at hg
  · rw [e] at hg
    simp only [Value.ownBlock, Option.some.injEq] at hg
    subst hg
    exact ⟨hb, cur, hh⟩
theorem words_lt {B : Nat} (h : Words B wr (.slice (some ⟨g, 0, none⟩) l.length cap) l) : ∃ cur, wr.heap[g]? = some (.cells cur 28 (0, 0)) := by
  obtain ⟨_, cur, hh⟩ := row_base_lt2 h rfl
  exact ⟨cur, hh⟩

/-- the copy stays where its blocks, but the map's, stay -/
theorem CopyAt.step (h : CopyAt w wr l c g cap m) (ho : Off (fun _ => False) w w') (hc : w'.heap[c]? = wr.heap[c]?) (hg : w'.heap[g]? = wr.heap[g]?) (hm : ∃ es cl, w'.heap[m]? = some (.map es cl) ∧ IntKeys es) : CopyAt w w' l c g cap m := by
  obtain ⟨cs, h1, h2, h3⟩ := h.dev
  exact ⟨ho, ⟨cs, hc.trans h1, h2, h3⟩, row_keep h.wds (fun g' hg' => by simp [Value.ownBlock] at hg'; subst hg'; exact hg), hm, h.lec, h.leg, h.lem⟩


theorem int_law : Maps.Keyed Try.prog 3 := Maps.int_keyed Try.underlying3

/-- behind the two clones: the copy stands, and the marks are to be stored -/
theorem copy_mid {w1 w3 : World} {G3 : Option Addr} {c3 : Nat} (hF : Off (fun _ => False) w w1) (hO : w1.ownsRow w.heap.size 28 1 (.slice (some ⟨g, 0, none⟩) D.words.length cap) D.words.length (u64s D.words))
    (hrep1 : Rep w1 a D) (hrep : Rep ((w1.alloc (.map #[] 0)).alloc (.cells #[.int .i64 (D.steps : Int), .int .i64 (D.stores : Int), .bool D.armed, .int .i64 (D.left : Int), .slice (some ⟨g, 0, none⟩) D.words.length cap, .map (some w1.heap.size), .slice none 0 0] 47)) a D)
    (hoff : Off (fun _ => False) ((w1.alloc (.map #[] 0)).alloc (.cells #[.int .i64 (D.steps : Int), .int .i64 (D.stores : Int), .bool D.armed, .int .i64 (D.left : Int), .slice (some ⟨g, 0, none⟩) D.words.length cap, .map (some w1.heap.size), .slice none 0 0] 47)) w3)
    (hsz : w.heap.size ≤ w1.heap.size) :
    Rep (w3.setCell ⟨w1.heap.size + 1, 6, none⟩ (.slice G3 D.marked.length c3)) a D ∧ CopyAt w (w3.setCell ⟨w1.heap.size + 1, 6, none⟩ (.slice G3 D.marked.length c3)) D.words (w1.heap.size + 1) g cap w1.heap.size ∧
      w3.cell? ⟨w1.heap.size + 1, 6, none⟩ = some (.slice none 0 0) ∧ w3.frozen? ⟨w1.heap.size + 1, 6, none⟩ = false ∧ w3.cell? ⟨a, 5, none⟩ = some (.map (some D.mb)) := by
  have hC : w3.heap[w1.heap.size + 1]? = some (.cells #[.int .i64 (D.steps : Int), .int .i64 (D.stores : Int), .bool D.armed, .int .i64 (D.left : Int), .slice (some ⟨g, 0, none⟩) D.words.length cap, .map (some w1.heap.size), .slice none 0 0] 47 (0, 0)) := by
    refine (hoff.block _ (by simp) id).trans ?_
    have := (heap_alloc (w1.alloc (.map #[] 0)) (.cells #[.int .i64 (D.steps : Int), .int .i64 (D.stores : Int), .bool D.armed, .int .i64 (D.left : Int), .slice (some ⟨g, 0, none⟩) D.words.length cap, .map (some w1.heap.size), .slice none 0 0] 47)).1
    rw [World.size_alloc] at this
    exact this
  have hM : w3.heap[w1.heap.size]? = some (.map #[] 0) := (hoff.block _ (by simp; omega) id).trans (blk_alloc (heap_alloc w1 _).1 _)
  obtain ⟨hgb, cur, hG⟩ := row_base_lt2 hO (g := g) rfl
  have hgl := lt_of_some hG
  have hgk : w3.heap[g]? = w1.heap[g]? := (hoff.block g (by simp; omega) id).trans ((Below.heap_alloc _ _ _ (by simp; omega)).trans (Below.heap_alloc _ _ _ hgl))
  have hrep3 : Rep w3 a D := hrep.keep (fun k hk => hoff.block k (hrep.foot_lt hk) id)
  have hfl : ∀ k, Foot a D k → k ≠ w1.heap.size + 1 := fun k hk e => by have := hrep1.foot_lt hk; omega
  have hoff3 : Off (fun _ => False) w w3 := ((hF.alloc _).alloc _).trans hoff (fun _ _ h => h)
  refine ⟨hrep3.keep (fun k hk => Below.heap_setCell _ _ _ _ (hfl k hk)), ⟨hoff3.setCell (fun h => by simp at h; omega) _, ⟨_, blk_set hC 6 _, ?_, ?_⟩, ?_, ⟨#[], 0, blk_far hM (by show w1.heap.size ≠ w1.heap.size + 1; omega) _, by intro x hx; simp at hx⟩, by omega, hgb, hsz⟩, blk_cell hC 6, blk_frozen hC 6, hrep3.c5⟩
  · rfl
  · rfl
  · exact row_keep (row_keep hO (fun g' hg' => by simp [Value.ownBlock] at hg'; subst hg'; exact hgk)) (fun g' hg' => by
      simp [Value.ownBlock] at hg'
      subst hg'
      exact Below.heap_setCell _ _ _ _ (by show g ≠ w1.heap.size + 1; omega))

theorem copy_start {W w5 : World} (h : CopyAt w W l c g cap m) (hr : Rep W a D) (hg : W.grownBy w5 none) : CopyAt w w5 l c g cap m ∧ Rep w5 a D := by
  have hk : ∀ k, k < W.heap.size → w5.heap[k]? = W.heap[k]? := fun k hk => hg.block k hk (by simp)
  obtain ⟨cs, hc, _⟩ := h.dev
  obtain ⟨cur, hgb⟩ := words_lt h.wds
  obtain ⟨es, cl, hm, hi⟩ := h.map
  refine ⟨h.step (h.off.grown hg (fun k hk => by cases hk)) (hk _ (lt_of_some hc)) (hk _ (lt_of_some hgb)) ⟨es, cl, (hk _ (lt_of_some hm)).trans hm, hi⟩, hr.keep (fun k hf => hk k (hr.foot_lt hf))⟩

theorem copy_r1 {w6 : World} {R : Value → Option (DataW Unit × List MemPlace)} {n rb : Nat} {D0 : DataW Unit} {left : Lit → Bool} {cnt : Nat} (h : CopyAt w wr l c g cap m) (hr : Rep wr a D) (hrg : wr.ranges Try.prog 3 R D.mb rb n D0 left cnt) (hg : wr.grownBy w6 (some rb)) (hrb : w.heap.size ≤ rb) :
    CopyAt w w6 l c g cap m ∧ Rep w6 a D := by
  obtain ⟨es0, cl0, since, seen, c0, hb0, _, _, _, hit, _⟩ := hrg
  have hk : ∀ k o, wr.heap[k]? = some o → (∀ (mp : Option Nat) (s : Nat) (se : Array Nat) (c : Nat), o ≠ Obj.mapIter mp s se c) → w6.heap[k]? = wr.heap[k]? := fun k o ho hne => hg.block k (lt_of_some ho) (fun e => by
    injection e with e
    subst e
    rw [ho] at hit
    injection hit with hit
    exact hne _ _ _ _ hit)
  obtain ⟨cs, hc, _⟩ := h.dev
  obtain ⟨cur, hgb⟩ := words_lt h.wds
  obtain ⟨es, cl, hm, hi⟩ := h.map
  refine ⟨h.step (h.off.grown hg (fun k hk hlt => by injection hk with hk; omega)) (hk _ _ hc (by intros; simp)) (hk _ _ hgb (by intros; simp)) ⟨es, cl, (hk _ _ hm (by intros; simp)).trans hm, hi⟩, hr.keep (fun k hf => ?_)⟩
  rcases hf with rfl | rfl | rfl | hf | hf
  · exact hk _ _ hr.dev (by intros; simp)
  · exact hk _ _ hr.wds (by intros; simp)
  · exact hk _ _ hr.map (by intros; simp)
  · obtain ⟨e, he, rfl⟩ := List.mem_map.1 hf
    obtain ⟨ds, hds, _⟩ := hr.ent e he
    exact hk _ _ hds (by intros; simp)
  · obtain ⟨_, cur, hh⟩ := row_base_lt2 hr.mrk hf
    exact hk _ _ hh (by intros; simp)

theorem copy_r2 {w6 w8 : World} {R : Value → Option (DataW Unit × List MemPlace)} {n rb : Nat} {D0 : DataW Unit} {left : Lit → Bool} {cnt : Nat} {cs : Array Value} (h : CopyAt w w6 l c g cap m) (hr : Rep w6 a D) (hrg : w6.ranges Try.prog 3 R D.mb rb n D0 left cnt)
    (hoff : Off (fun _ => False) (w6.alloc (.cells cs 62)) w8) (x : Int) (u v : Value) (hmlt : D.mb < w.heap.size) :
    w8.cell? ⟨w6.heap.size, 0, none⟩ = cs[0]? ∧ w8.cell? ⟨w6.heap.size, 1, none⟩ = cs[1]? ∧ w8.frozen? ⟨w6.heap.size, 0, none⟩ = false ∧ w8.cell? ⟨c, 5, none⟩ = some (.map (some m)) ∧
      ∃ w9, (Instr.mapUpdate 44 (.map (some m)) (.int .i64 x) v).run Try.prog (w8.setCell ⟨w6.heap.size, 0, none⟩ u).drew = .ok () w9 ∧ CopyAt w w9 l c g cap m ∧ Rep w9 a D ∧ w9.ranges Try.prog 3 R D.mb rb n D0 left cnt := by
  have hN : w8.heap[w6.heap.size]? = some (.cells cs 62 (0, 0)) := (hoff.block _ (by simp) id).trans (heap_alloc w6 _).1
  have hk8 : ∀ k, k < w6.heap.size → w8.heap[k]? = w6.heap[k]? := fun k hk => (hoff.block k (by simp; omega) id).trans (Below.heap_alloc _ _ _ hk)
  obtain ⟨ds, hc, h4, h5⟩ := h.dev
  obtain ⟨cur, hgb⟩ := words_lt h.wds
  obtain ⟨es, cl, hm, hi⟩ := h.map
  have hmlt6 := lt_of_some hm
  have hM : (w8.setCell ⟨w6.heap.size, 0, none⟩ u).drew.heap[m]? = some (.map es cl) := blk_far ((hk8 m hmlt6).trans hm) (by show m ≠ w6.heap.size; omega) _
  obtain ⟨es', c', w9, hrun, hi', hm9, hg9⟩ := run_put_any x v hM hi
  have hk9 : ∀ k, k < w6.heap.size → k ≠ m → w9.heap[k]? = w6.heap[k]? := fun k hk hne => by
    refine (hg9.block k ?_ (by simpa using hne)).trans ?_
    · have := hoff.size
      rw [World.size_alloc] at this
      show k < (w8.setCell _ _).heap.size
      simp [World.setCell]
      omega
    · exact (Below.heap_setCell _ _ _ _ (by show k ≠ w6.heap.size; omega)).trans (hk8 k hk)
  have hcm : c ≠ m := blk_map hc hm
  have hgm : g ≠ m := blk_map hgb hm
  have hdm : D.mb ≠ m := by have := h.lem; omega
  obtain ⟨es0, cl0, since, seen, c0, hb0, h2, h3, h4', hit, h6⟩ := hrg
  have hrm : rb ≠ m := fun e => by subst e; rw [hm] at hit; injection hit with hit; cases hit
  have hoffw : Off (fun _ => False) w w9 := by
    have h1 : Off (fun _ => False) w (w8.setCell ⟨w6.heap.size, 0, none⟩ u).drew := ((((h.off.alloc _).trans hoff (fun _ _ h => h))).setCell (fun hx => by have := h.off.size; simp at hx; omega) _).drew
    exact h1.grown hg9 (fun k hk hlt => by injection hk with hk; have := h.lem; omega)
  refine ⟨blk_cell hN 0, blk_cell hN 1, blk_frozen hN 0, ?_, w9, hrun, h.step hoffw (hk9 c (lt_of_some hc) hcm) (hk9 g (lt_of_some hgb) hgm) ⟨es', c', hm9, hi'⟩, hr.keep (fun k hf => hk9 k (hr.foot_lt hf) (fun e => ?_)), ?_⟩
  · rw [blk_cell ((hk8 c (lt_of_some hc)).trans hc)]; exact h5
  · subst e
    have hk := hr.keep (w' := w6) (fun _ _ => rfl)
    rcases hf with e | e | e | hf | hf
    · rw [e] at hm; rw [hr.dev] at hm; injection hm with hm; cases hm
    · rw [e] at hm; rw [hr.wds] at hm; injection hm with hm; cases hm
    · exact hdm e.symm
    · obtain ⟨e, he, e2⟩ := List.mem_map.1 hf
      obtain ⟨ds, hds, _⟩ := hr.ent e he
      rw [e2, hm] at hds; injection hds with hds; cases hds
    · obtain ⟨_, cur, hh⟩ := row_base_lt2 hr.mrk hf
      rw [hm] at hh; injection hh with hh; cases hh
  · exact ⟨es0, cl0, since, seen, c0, (hk9 _ (lt_of_some hb0) hdm).trans hb0, h2, h3, h4', (hk9 _ (lt_of_some hit) hrm).trans hit, h6⟩

set_option maxHeartbeats 3200000 in
set_option maxRecDepth 100000 in
theorem copy_any (h : Rep w a D) (ok : D.abs.Ok) (hw0 : 0 < D.words.length) : Calls Try.prog 18 #[.pointer (some ⟨a, 0, none⟩)] w (CopyAns w D.words) := by
  have c4 := h.c4
  have hwl : D.words.length ≤ 4194304 := ok.size
  have hml : D.marked.length ≤ 4194304 := ok.marked_le
  have HC := Lib.hid (clone_any (w := w) ⟨D.wb, 0, none⟩ D.words.length D.words (lt_of_some h.wds) (by omega) (fun j u hu => by
    rw [Addr.add_lit, Nat.zero_add, blk_cell h.wds]
    simpa using hu))
  have H := Lib.hid h
  have HK := Lib.hid ok
  clear h ok
  go_enter Try.func18, Try.ntmps18
  go_wp2_with fail
  refine HC.out.mono ?_
  rintro r w1 ⟨v1, rfl, hown1, hoff1⟩
  obtain ⟨g, cap, rfl⟩ := row_form hown1 hw0
  have hrep1 : Rep w1 a D := H.out.keep (fun k hk => hoff1.block k (H.out.foot_lt hk) id)
  have k0 := hrep1.c0
  have k1 := hrep1.c1
  have k2 := hrep1.c2
  have k3 := hrep1.c3
  have k5 := hrep1.c5
  have k6 := hrep1.c6
  have hal := hrep1.lt
  have HR1 := Lib.hid hrep1
  have HO1 := Lib.hid hown1
  have HF1 := Lib.hid hoff1
  clear hrep1 hown1 hoff1
  go_wp2_with (go_at_call 23; refine (own_gen _ _ _).mono ?_; rintro r w2 ⟨rfl, rfl⟩)
  have hrep2 : Rep ((w1.alloc (.map #[] 0)).alloc (.cells #[.int .i64 (D.steps : Int), .int .i64 (D.stores : Int), .bool D.armed, .int .i64 (D.left : Int), .slice (some ⟨g, 0, none⟩) D.words.length cap, .map (some w1.heap.size), .slice none 0 0] 47)) a D :=
    (HR1.out.keep (fun _ hk => Below.heap_alloc _ _ _ (HR1.out.foot_lt hk))).keep (fun _ hk => Below.heap_alloc _ _ _ (by have := HR1.out.foot_lt hk; simp; omega))
  have hcl := clone_int (D.mkv) D.marked 0 hrep2.mrk (by omega)
  unfold Dev.mkv at hcl
  refine hcl.mono ?_
  clear hcl
  rintro r w3 ⟨G3, c3, rfl, hoff3⟩
  obtain ⟨hrep4, hca4, p6, q6, p5⟩ := copy_mid (G3 := G3) (c3 := c3) HF1.out HO1.out HR1.out hrep2 hoff3 (by have := HF1.out.size; omega)
  obtain ⟨D0, hownm, hx1, hx2⟩ := rep_ownsMapR hrep4 HK.out (entElem D.ents) (fun e he => entElem_of he)
  clear hx1 hx2
  have HR4 := Lib.hid hrep4
  have HCA := Lib.hid hca4
  have HOWM := Lib.hid hownm
  clear hrep2 hoff3 hrep4 hca4 hownm
  go_wp2_with (at_range; refine wpList_range_own _ rfl _ 44 rfl 3 62 int_law Try.underlying44 _ D.mb D.ents.length D0 rfl HOWM.out ?_
               intro w5 hrg5 hg5 hs5
               have HRG5 := Lib.hid hrg5
               have HG5 := Lib.hid hg5
               have HS5 := Lib.hid hs5
               clear hrg5 hg5 hs5)
  go_frame
  obtain ⟨rb, hrb⟩ : ∃ rb, rb = (w3.setCell ⟨w1.heap.size + 1, 6, none⟩ (.slice G3 D.marked.length c3)).heap.size := ⟨_, rfl⟩
  obtain ⟨hca5, hrep5⟩ := copy_start HCA.out HR4.out HG5.out
  have hrg5 := HRG5.out
  rw [← hrb] at hrg5
  rw [← hrb]
  have HRB := Lib.hid hrb
  have HRG := Lib.hid hrg5
  have HCA5 := Lib.hid hca5
  have HREP5 := Lib.hid hrep5
  clear hrb hca5 hrep5 hrg5 HRG5
  go_loopw [4] (fun _ wr => ∃ (left : Lit → Bool) (cnt : Nat), wr.ranges Try.prog 3 (entElem D.ents) D.mb rb D.ents.length D0 left cnt ∧ CopyAt w wr D.words (w1.heap.size + 1) g cap w1.heap.size ∧ Rep wr a D) (fun _ wr => wr.rangeLeft D.mb rb)
  case atStart => exact ⟨_, _, HRG.out, HCA5.out, HREP5.out⟩
  case round =>
    obtain ⟨left, cnt, hrg, hca, hrep⟩ := hrel
    have HRGR := Lib.hid hrg
    have HCAR := Lib.hid hca
    have HREPR := Lib.hid hrep
    clear hca hrep
    go_wp2_with (first
      | (at_next; refine wpList_next_ranges _ rfl _ rfl 3 int_law (entElem D.ents) (Value.int .i64) (fun e : { e : Ent // e ∈ D.ents } => Value.agg #[.slice (some ⟨e.1.blk, e.1.off, none⟩) e.1.vals.length e.1.cap, .int .i64 (e.1.mark : Int)]) (fun key kl hk => by obtain ⟨x, hx, _⟩ := Maps.keyOf_i64 Try.underlying3 hk; exact ⟨x, hx⟩) (fun v y hv => by obtain ⟨e, he, rfl⟩ := entElem_inv hv; exact ⟨⟨e, he⟩, rfl⟩) D.mb rb D.ents.length _ _ _ rfl hrg ?_ ?_))
    · intro _ _
      clear hrg
      go_wp2
      go_ret
      exact ⟨_, g, cap, _, rfl, HCAR.out⟩
    · intro x e he kl yd yp w6 cnt6 hkey hlk hv hat hrg6 hlt hg6 hs6 hen
      have hrbw : w.heap.size ≤ rb := by rw [HRB.out]; exact HCA.out.off.size
      obtain ⟨hca6, hrep6⟩ := copy_r1 HCAR.out HREPR.out HRGR.out hg6 hrbw
      have hpos := HK.out.ent e.abs (List.mem_map_of_mem he)
      have hfew := HK.out.few
      have hcnt := HK.out.cnt
      simp only [Ent.abs] at hpos
      have hvp : 0 < e.vals.length := by omega
      have hvb : e.vals.length < 1000000000000 := by omega
      obtain ⟨cs, hcs, r1, r2, r3⟩ := hrep6.ent e he
      have hcl := clone_any (w := w6.alloc (.cells #[.slice (some ⟨e.blk, e.off, none⟩) e.vals.length e.cap, .int .i64 (e.mark : Int)] 62)) ⟨e.blk, e.off, none⟩ e.cap e.vals (by have := lt_of_some hcs; simp; omega) hvb (fun j u hj => by
        rw [Addr.add_lit, blk_cell (blk_alloc hcs _), ← hj, ← r3]
        have hjl : j < e.vals.length := by
          have := (List.getElem?_eq_some_iff.1 hj).1
          simpa [u64s] using this
        rw [List.getElem?_take, if_pos hjl, List.getElem?_drop, Array.getElem?_toList])
      have HCL := Lib.hid hcl
      have HCA6 := Lib.hid hca6
      have HREP6 := Lib.hid hrep6
      have HRG6 := Lib.hid hrg6
      have HLT := Lib.hid hlt
      clear hrg hkey hlk hv hat hrg6 hlt hg6 hs6 hca6 hrep6 hpos hfew hcnt hcs r1 r2 r3 hcl hrbw he
      go_wp2_with fail
      refine HCL.out.mono ?_
      rintro r w8 ⟨v8, rfl, hown8, hoff8⟩
      obtain ⟨g8, c8, rfl⟩ := row_form hown8 hvp
      obtain ⟨p0, p1, pf, p5, w9, hrun9, hca9, hrep9, hrg9⟩ := copy_r2 HCA6.out HREP6.out HRG6.out hoff8 x (.slice (some ⟨g8, 0, none⟩) e.vals.length c8) (.agg #[.slice (some ⟨g8, 0, none⟩) e.vals.length c8, .int .i64 (e.mark : Int)]) (lt_of_some H.out.map)
      have HCA9 := Lib.hid hca9
      have HREP9 := Lib.hid hrep9
      have HRG9 := Lib.hid hrg9
      clear hown8 hoff8 hca9 hrep9 hrg9
      go_wp2
      go_region
      go_roundw
      case rel => (repeat apply Exists.intro); exact ⟨⟨_, cnt6, HRG9.out, HCA9.out, HREP9.out⟩, rfl⟩
      case measure =>
        rw [HRG9.out.left_eq, HRGR.out.left_eq]
        exact HLT.out
end
end Pm
end Go.Proofs.Ytlcjnmoicjgaiaa
