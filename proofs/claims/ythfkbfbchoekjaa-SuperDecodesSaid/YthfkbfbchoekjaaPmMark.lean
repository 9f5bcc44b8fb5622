/- The device's mark. -/
import Derived.Test.YthfkbfbchoekjaaPmSmall
import Derived.RegionTactic
import Derived.BigRegion
namespace Go.Proofs.Ythfkbfbchoekjaa
open Go.RowKit Go.MapKept
namespace Pm
section
variable {w : World} {a : Nat} {D : Dev}

theorem mark_no (h : Rep w a D) (k : Nat) (hk : k ∉ D.ents.map Ent.key) : Calls Try.prog 56 #[.pointer (some ⟨a, 0, none⟩), .int .i64 (k : Int)] w fun e w' =>
    e = .returned (.tuple #[]) ∧ Res w a D w' D := by
  have c5 := h.cell 5
  simp only [Dev.cells] at c5
  have hl := run_look_none h.map hk true
  simp only [if_true] at hl
  have H := Lib.hid h
  clear h hk
  go_enter Try.func56, Try.ntmps56
  go_wp2
  refine bodyPost_ret (results_none rfl _ _ _) rfl ?_
  exact ⟨rfl, H.out.keep (fun k hk => Below.heap_alloc _ _ _ (H.out.foot_lt hk)), (Off.refl _ _).alloc _, fun _ h => .inl h⟩

theorem int_info : (Try.prog.info? 3).map (fun i => (i.zero, i.size, i.bytes)) = some (some (.int .i64 0), 1, 8) := by kernel_rfl

/-- a row's last form: it owns something, so it is no nil -/
theorem row_form {w : World} {base : Nat} {e : TypeId} {v : Value} {n : Nat} {xs : List Value} (h : w.ownsRow base e 1 v n xs) (hn : 0 < n) : ∃ g c, v = .slice (some ⟨g, 0, none⟩) n c := by
  rcases h.2 with ⟨_, h⟩ | ⟨g, cap, cur, h, _⟩
  · omega
  · exact ⟨g, cap, h⟩

theorem nodup_mid {α : Type} {pre post : List α} {x : α} (h : (pre ++ x :: post).Nodup) : x ∉ pre ∧ x ∉ post := by
  have h1 := List.nodup_append.1 h
  exact ⟨fun hx => h1.2.2 _ hx _ (.head _) rfl, (List.nodup_cons.1 h1.2.1).1⟩

theorem Rep.mid_key (h : Rep w a D) {pre post : List Ent} {e : Ent} (he : D.ents = pre ++ e :: post) : e.key ∉ pre.map Ent.key ∧ e.key ∉ post.map Ent.key := by
  have := h.keys
  rw [he, List.map_append, List.map_cons] at this
  exact nodup_mid this

theorem mark_facts {w2 : World} {cs ds : Array Value} {t u : TypeId} (h : Rep w a D) (hg : ((w.alloc (.cells cs t)).alloc (.cells ds u)).grownBy w2 (Value.slice D.mka D.marked.length D.mkc).ownBlock) :
    (∀ k, k < w.heap.size → D.mkv.ownBlock ≠ some k → w2.heap[k]? = w.heap[k]?) ∧ w2.heap[w.heap.size]? = some (.cells cs t (0, 0)) := by
  refine ⟨fun k hk hn => ?_, ?_⟩
  · rw [hg.block k (by simp; omega) (fun e => hn e.symm), Below.heap_alloc _ _ _ (by simp; omega), Below.heap_alloc _ _ _ hk]
  · rw [hg.block _ (by simp; omega) (fun e => by
      have := h.foot_lt (k := w.heap.size) (.inr (.inr (.inr (.inr e.symm))))
      omega), Below.heap_alloc _ _ _ (by simp), (heap_alloc w _).1]

theorem cell_one_new2 (w : World) (o : Obj) (v : Value) (t : TypeId) : ∀ j u, [v][j]? = some u → ((w.alloc o).alloc (.cells #[v] t)).cell? ((⟨w.heap.size + 1, 0, none⟩ : Addr).add j) = some u := by
  have := cell_one_new (w.alloc o) v t
  rw [World.size_alloc] at this
  exact this

theorem foot_mid {D : Dev} {pre post : List Ent} {e e' : Ent} (he : D.ents = pre ++ e :: post) (hb : e'.blk = e.blk) : (pre ++ e' :: post).map Ent.blk = D.ents.map Ent.blk := by
  rw [he]; simp [hb]
theorem keys_mid {D : Dev} {pre post : List Ent} {e e' : Ent} (he : D.ents = pre ++ e :: post) (hb : e'.key = e.key) : (pre ++ e' :: post).map Ent.key = D.ents.map Ent.key := by
  rw [he]; simp [hb]

theorem stamp_mid {l pre post : List Ent} {e e' : Ent} {c : Nat} (h : Stamp l c) (he : l = pre ++ e :: post) (hb : e'.born = e.born) : Stamp (pre ++ e' :: post) c := by
  subst he
  refine ⟨?_, ?_⟩
  · intro x hx
    simp only [List.mem_append, List.mem_cons] at hx
    rcases hx with hx | rfl | hx
    · exact h.1 x (by simp [hx])
    · rw [hb]; exact h.1 e (by simp)
    · exact h.1 x (by simp [hx])
  · have := h.2
    simpa [hb] using this

/-- what mark leaves, behind its append -/
theorem mark_res {w2 : World} {g c : Nat} {cs : Array Value} {t : TypeId} {u : Value} {row : Option Nat} {pre post : List Ent} {e e' : Ent} (h : Rep w a D) (he : D.ents = pre ++ e :: post)
    (e1 : e'.key = e.key) (e2 : e'.vals = e.vals) (e3 : e'.blk = e.blk) (e4 : e'.off = e.off) (e5 : e'.cap = e.cap) (e6 : e'.born = e.born)
    (ht3 : t ≠ 3) (hrow : row = D.mkv.ownBlock)
    (hoff : Off (fun k => row = some k) w w2)
    (hnew : w2.heap[w.heap.size]? = some (.cells cs t (0, 0))) (hown : w2.ownsRow 0 3 1 (.slice (some ⟨g, 0, none⟩) (D.marked.length + 1) c) (D.marked.length + 1) (i64s D.marked ++ [.int .i64 (e.key : Int)]))
    (hloc : some g = row ∨ w.heap.size ≤ g) :
    Res w a D (putMap ((w2.setCell ⟨a, 6, none⟩ (.slice (some ⟨g, 0, none⟩) (D.marked.length + 1) c)).setCell ⟨w.heap.size, 1, none⟩ u).drew D.mb (pre ++ e' :: post) D.clock)
      { D with ents := pre ++ e' :: post, marked := D.marked ++ [e.key], mka := some ⟨g, 0, none⟩, mkc := c } := by
  have hal := h.lt
  have hml := lt_of_some h.map
  have hwl := lt_of_some h.wds
  subst hrow
  have hF : ∀ k, k ≠ D.mb → k ≠ w.heap.size → k ≠ a → (putMap ((w2.setCell ⟨a, 6, none⟩ (.slice (some ⟨g, 0, none⟩) (D.marked.length + 1) c)).setCell ⟨w.heap.size, 1, none⟩ u).drew D.mb (pre ++ e' :: post) D.clock).heap[k]? = w2.heap[k]? :=
    fun k h1 h2 h3 => (putMap_ne h1).trans ((Below.heap_setCell _ _ _ _ h2).trans (Below.heap_setCell _ _ _ _ h3))
  have hold : ∀ k, k < w.heap.size → D.mkv.ownBlock ≠ some k → w2.heap[k]? = w.heap[k]? := fun k hk hn => hoff.block k hk hn
  have hD : w2.heap[a]? = some (.cells D.cells 70 (0, 0)) := (hold a hal h.ne_mkv).trans h.dev
  have hM : w2.heap[D.mb]? = some (.map (D.ents.map Ent.entry).toArray D.clock) := (hold _ hml h.mb_mkv).trans h.map
  obtain ⟨cur, hgb, hr⟩ : ∃ cur, w2.heap[g]? = some (.cells cur 3 (0, 0)) ∧ D.marked.length + 1 ≤ c ∧ c ≤ maxLen ∧ cur.size = c * 1 ∧ cur.toList.take ((D.marked.length + 1) * 1) = i64s D.marked ++ [.int .i64 (e.key : Int)] := by
    rcases hown.2 with ⟨hx, _⟩ | ⟨g', c', cur, hx, _, hb, r⟩
    · cases hx
    · injection hx with hx1 _ hx2
      injection hx1 with hx1
      injection hx1 with hx1
      subst hx1 hx2
      exact ⟨cur, hb, r⟩
  have hga : g ≠ a := blk_ne hgb hD (by decide)
  have hgm : g ≠ D.mb := blk_map hgb hM
  have hgs : g ≠ w.heap.size := blk_ne hgb hnew (fun e => ht3 e.symm)
  have hents : ∀ x ∈ D.ents, x.lies (putMap ((w2.setCell ⟨a, 6, none⟩ (.slice (some ⟨g, 0, none⟩) (D.marked.length + 1) c)).setCell ⟨w.heap.size, 1, none⟩ u).drew D.mb (pre ++ e' :: post) D.clock) := fun x hx => by
    obtain ⟨cs, hcs, r⟩ := h.ent x hx
    have hxl := lt_of_some hcs
    exact ⟨cs, (hF _ (blk_map hcs h.map) (by omega) (h.ne_ent hx).symm).trans ((hold _ hxl (h.u64_mkv hcs)).trans hcs), r⟩
  refine ⟨⟨?_, ?_, ?_, ?_, ?_, ?_, ?_, stamp_mid h.stamp he e6⟩, ?_, ?_⟩
  · refine (putMap_ne h.ne_mb).trans ?_
    refine (blk_far (p := ⟨w.heap.size, 1, none⟩) (blk_set hD 6 _) (by show a ≠ w.heap.size; omega) u).trans ?_
    simp [Dev.cells]
  · exact (hF _ h.wb_mb (by omega) h.ne_wb.symm).trans ((hold _ hwl (h.u64_mkv h.wds)).trans h.wds)
  · exact putMap_at (by have := hoff.size; show D.mb < ((w2.setCell _ _).setCell _ _).heap.size; simp [World.setCell]; omega)
  · intro x hx
    simp only [List.mem_append, List.mem_cons] at hx
    rcases hx with hx | rfl | hx
    · exact hents x (by rw [he]; simp [hx])
    · obtain ⟨cs, hcs, r1, r2, r3⟩ := hents e (by rw [he]; simp)
      exact ⟨cs, by rw [e3]; exact hcs, by rw [e4, e5]; exact r1, by rw [e2, e5]; exact r2, by rw [e4, e2]; exact r3⟩
    · exact hents x (by rw [he]; simp [hx])
  · refine ⟨by simp [i64s], .inr ⟨g, c, cur, by simp [Dev.mkv], Nat.zero_le _, (hF g hgm hgs hga).trans hgb, ?_⟩⟩
    simpa [i64s] using hr
  · rw [foot_mid he e3]; exact h.nodup
  · rw [keys_mid he e1]; exact h.keys
  · refine Off.putMap (Off.drew (Off.setCell (Off.setCell (hoff.mono (fun k _ hk => .inr (.inr (.inr (.inr hk))))) (fun _ => .inl rfl) _) (fun hx => absurd hx (Nat.lt_irrefl _)) _)) (fun _ => .inr (.inr (.inl rfl)))
  · rintro k (rfl | rfl | rfl | hk | hk)
    · exact .inl (.inl rfl)
    · exact .inl (.inr (.inl rfl))
    · exact .inl (.inr (.inr (.inl rfl)))
    · refine .inl (.inr (.inr (.inr (.inl ?_))))
      rw [← foot_mid he e3]; exact hk
    · simp only [Dev.mkv, Value.ownBlock, Option.some.injEq] at hk
      subst hk
      rcases hloc with hx | hx
      · exact .inl (.inr (.inr (.inr (.inr hx.symm))))
      · exact .inr hx

set_option maxHeartbeats 800000 in
set_option maxRecDepth 100000 in
theorem mark_first (h : Rep w a D) (pre post : List Ent) (e : Ent) (he : D.ents = pre ++ e :: post) (hm : e.mark = 0) (hn : D.marked.length < 1000000000) (hv : 1 ≤ e.vals.length) (hv2 : e.vals.length < 1000000000000) : Calls Try.prog 56 #[.pointer (some ⟨a, 0, none⟩), .int .i64 (e.key : Int)] w fun r w' =>
    r = .returned (.tuple #[]) ∧ ∃ mka mkc, Res w a D w' { D with ents := pre ++ { e with mark := e.vals.length - 1 } :: post, marked := D.marked ++ [e.key], mka := mka, mkc := mkc } := by
  obtain ⟨i0, hi0, hz0, hz1, hz2⟩ := info_parts int_info
  have c5 := h.c5
  have c6 := h.c6
  have f6 := h.frozen 6
  have hm0 := h.map
  rw [he] at hm0
  have hl := run_look_some hm0 (h.mid_key he).1 true
  simp only [if_true, Ent.val, hm, Int.natCast_zero] at hl
  have hlt : a < w.heap.size := lt_of_some h.dev
  have hmrk := h.mrk
  unfold Dev.mkv at hmrk
  have hap := ((hmrk.alloc (.cells #[.slice (some ⟨e.blk, e.off, none⟩) e.vals.length e.cap, .int .i64 0] 72)).alloc (.cells #[.int .i64 (e.key : Int)] 3))
  have HAP := Lib.hid hap
  have H := Lib.hid h
  have HE := Lib.hid he
  have HM := Lib.hid hm0
  have HMM := Lib.hid hm
  clear h hm0 he hmrk hap hm
  go_enter Try.func56, Try.ntmps56
  go_wp2_with (at_builtin; refine wpList_append_own_at _ rfl (.tmp 24) (.tmp 26) 68 rfl 0 3 i0 (.int .i64 0) 1 8 Try.underlying68 hi0 hz0 hz1 hz2 rfl (by decide) _ _ _ rfl HAP.out ⟨w.heap.size + 1, 0, none⟩ 1 1 [.int .i64 (e.key : Int)] rfl rfl (cell_one_new2 _ _ _ _) (by simp [Value.oneCell']) (by unfold maxLen; omega) (by omega) (by omega) ?_
               intro v' w2 hown hgrow hnil hloc
               obtain ⟨hold, hnew⟩ := mark_facts H.out hgrow
               obtain ⟨g, c, rfl⟩ := row_form hown (by omega)
               have k5 := (World.cell?_of_block (hold a hlt H.out.ne_mkv)).trans c5
               have k6 := (World.cell?_of_block (hold a hlt H.out.ne_mkv)).trans c6
               have e6 := (World.frozen?_of_block (hold a hlt H.out.ne_mkv)).trans f6
               have k0 := blk_cell hnew 0
               have k1 := blk_cell hnew 1
               have e1 := blk_frozen hnew 1
               have hne : a ≠ w.heap.size := by omega
               have HO := Lib.hid hown
               have HG := Lib.hid hgrow
               have HD := Lib.hid hold
               have HN := Lib.hid hnew
               have HL := Lib.hid hloc
               clear hown hgrow hold hnew hloc hnil)
  have hput := run_put_some (w := ((w2.setCell ⟨a, 6, none⟩ (.slice (some ⟨g, 0, none⟩) (D.marked.length + 1) c)).setCell ⟨w.heap.size, 1, none⟩ (.int .i64 ((e.vals.length : Int) - 1))).drew) (pre := pre) (post := post) (e := e) (e' := { e with mark := e.vals.length - 1 }) (b := D.mb) (c := D.clock) (by
    have h := H.out
    show ((w2.setCell ⟨a, 6, none⟩ _).setCell ⟨w.heap.size, 1, none⟩ _).heap[D.mb]? = _
    have hml := lt_of_some h.map
    rw [Below.heap_setCell _ _ _ _ (by show D.mb ≠ w.heap.size; omega), Below.heap_setCell _ _ _ _ h.ne_mb.symm, HD.out _ hml h.mb_mkv]
    exact HM.out) (H.out.mid_key HE.out).1 rfl rfl
  rw [show Ent.val { e with mark := e.vals.length - 1 } = .agg #[.slice (some ⟨e.blk, e.off, none⟩) e.vals.length e.cap, .int .i64 ((e.vals.length : Int) - 1)] from by simp [Ent.val]; omega] at hput
  go_region
  go_end0
  refine ⟨rfl, some ⟨g, 0, none⟩, c, ?_⟩
  refine mark_res (row := D.mkv.ownBlock) H.out HE.out rfl rfl rfl rfl rfl rfl (by decide) rfl ?_ HN.out HO.out ?_
  · exact (((Off.refl _ _).alloc _).alloc _).grown HG.out (fun k hk _ => hk)
  · rcases HL.out with hx | hx
    · exact .inl hx
    · refine .inr ?_
      simp [Value.ownBlock] at hx
      omega

/-- what is left where the entries alone have turned -/
theorem ents_res {w2 : World} (h : Rep w a D) (l : List Ent) (c : Nat) (hoff : Off (fun k => k ∈ D.ents.map Ent.blk) w w2) (hl : ∀ x ∈ l, x.lies w2) (hn : (D.wb :: l.map Ent.blk).Nodup) (hk : (l.map Ent.key).Nodup) (hst : Stamp l c)
    (hf : ∀ x ∈ l, x.blk ∈ D.ents.map Ent.blk ∨ w.heap.size ≤ x.blk) : Res w a D (putMap w2 D.mb l c) { D with ents := l, clock := c } := by
  have hal := h.lt
  have hml := lt_of_some h.map
  have hwl := lt_of_some h.wds
  have hblk : ∀ {t : TypeId} {cs : Array Value} {k : Nat}, t ≠ 39 → w.heap[k]? = some (.cells cs t (0, 0)) → k ∉ D.ents.map Ent.blk := by
    intro t cs k ht hk hx
    obtain ⟨x, hx2, e⟩ := List.mem_map.1 hx
    obtain ⟨ds, hds, _⟩ := h.ent x hx2
    exact blk_ne hk hds ht e.symm
  have hmb : D.mb ∉ D.ents.map Ent.blk := by
    intro hx
    obtain ⟨x, hx, e⟩ := List.mem_map.1 hx
    obtain ⟨ds, hds, _⟩ := h.ent x hx
    exact blk_map hds h.map e
  have hwb : D.wb ∉ D.ents.map Ent.blk := (List.nodup_cons.1 h.nodup).1
  have hM2 : w2.heap[D.mb]? = some (.map (D.ents.map Ent.entry).toArray D.clock) := (hoff.block _ hml hmb).trans h.map
  refine ⟨⟨?_, ?_, ?_, ?_, ?_, hn, hk, hst⟩, ?_, ?_⟩
  · exact (putMap_ne h.ne_mb).trans ((hoff.block _ hal (hblk (by decide) h.dev)).trans h.dev)
  · exact (putMap_ne h.wb_mb).trans ((hoff.block _ hwl hwb).trans h.wds)
  · exact putMap_at (lt_of_some hM2)
  · intro x hx
    obtain ⟨cs, hcs, r⟩ := hl x hx
    exact ⟨cs, (putMap_ne (blk_map hcs hM2)).trans hcs, r⟩
  · refine row_keep h.mrk (fun g hg => ?_)
    have hgl := h.foot_lt (.inr (.inr (.inr (.inr hg))))
    have hgm : g ≠ D.mb := fun e => h.mb_mkv (by rw [← e]; exact hg)
    refine (putMap_ne hgm).trans (hoff.block _ hgl (fun hx => ?_))
    obtain ⟨x, hx2, e⟩ := List.mem_map.1 hx
    obtain ⟨ds, hds, _⟩ := h.ent x hx2
    exact h.u64_mkv hds (by rw [e]; exact hg)
  · exact Off.putMap (hoff.mono (fun k _ hk => .inr (.inr (.inr (.inl hk))))) (fun _ => .inr (.inr (.inl rfl)))
  · rintro k (rfl | rfl | rfl | hk | hk)
    · exact .inl (.inl rfl)
    · exact .inl (.inr (.inl rfl))
    · exact .inl (.inr (.inr (.inl rfl)))
    · obtain ⟨x, hx, rfl⟩ := List.mem_map.1 hk
      rcases hf x hx with hy | hy
      · exact .inl (.inr (.inr (.inr (.inl hy))))
      · exact .inr hy
    · exact .inl (.inr (.inr (.inr (.inr hk))))

/-- an entry turned in place -/
theorem mid_res {w2 : World} (h : Rep w a D) {pre post : List Ent} {e e' : Ent} (he : D.ents = pre ++ e :: post) (e1 : e'.key = e.key) (e6 : e'.born = e.born) (e3 : e'.blk = e.blk) (hoff : Off (fun k => k = e.blk) w w2) (hl : e'.lies w2) :
    Res w a D (putMap w2 D.mb (pre ++ e' :: post) D.clock) { D with ents := pre ++ e' :: post } := by
  have hnd := h.nodup
  rw [he, List.map_append, List.map_cons] at hnd
  have hmid := nodup_mid (List.nodup_cons.1 hnd).2
  have hmem : ∀ x, x ∈ pre ∨ x ∈ post → x ∈ D.ents := by intro x hx; rw [he]; simp only [List.mem_append, List.mem_cons]; rcases hx with hx | hx <;> simp [hx]
  have hoth : ∀ x, x ∈ pre ∨ x ∈ post → x.blk ≠ e.blk := by
    rintro x (hx | hx) hxe
    · exact hmid.1 (by rw [← hxe]; exact List.mem_map_of_mem hx)
    · exact hmid.2 (by rw [← hxe]; exact List.mem_map_of_mem hx)
  refine ents_res h (pre ++ e' :: post) D.clock (hoff.mono (fun k _ hk => ?_)) ?_ ?_ ?_ (stamp_mid h.stamp he e6) ?_
  · subst hk; rw [he]; simp
  · intro x hx
    simp only [List.mem_append, List.mem_cons] at hx
    have hxx : x = e' ∨ (x ∈ pre ∨ x ∈ post) := by rcases hx with hx | hx | hx <;> simp [hx]
    rcases hxx with rfl | hx
    · exact hl
    · exact lies_keep (h.ent x (hmem x hx)) (hoff.block _ (h.foot_lt (.inr (.inr (.inr (.inl (List.mem_map_of_mem (hmem x hx))))))) (hoth x hx))
  · rw [foot_mid he e3]; exact h.nodup
  · rw [keys_mid he e1]; exact h.keys
  · intro x hx
    refine .inl ?_
    rw [← foot_mid he e3]
    exact List.mem_map_of_mem hx

set_option maxHeartbeats 800000 in
set_option maxRecDepth 100000 in
theorem mark_again (h : Rep w a D) (pre post : List Ent) (e : Ent) (he : D.ents = pre ++ e :: post) (hm : 0 < e.mark) (hv : 1 ≤ e.vals.length) (hv2 : e.vals.length < 1000000000000) : Calls Try.prog 56 #[.pointer (some ⟨a, 0, none⟩), .int .i64 (e.key : Int)] w fun r w' =>
    r = .returned (.tuple #[]) ∧ Res w a D w' { D with ents := pre ++ { e with mark := e.vals.length - 1 } :: post } := by
  have c5 := h.c5
  have hm0 := h.map
  rw [he] at hm0
  have hl := run_look_some hm0 (h.mid_key he).1 true
  simp only [if_true, Ent.val] at hl
  have hlt : a < w.heap.size := h.lt
  have hm1 : ((e.mark : Int) == 0) = false := by simp; omega
  have hput := run_put_some (w := (w.alloc (.cells #[.slice (some ⟨e.blk, e.off, none⟩) e.vals.length e.cap, .int .i64 ((e.vals.length : Int) - 1)] 72)).drew) (pre := pre) (post := post) (e := e) (e' := { e with mark := e.vals.length - 1 }) (b := D.mb) (c := D.clock) (by
    have hml := lt_of_some h.map
    exact (Below.heap_alloc _ _ _ hml).trans hm0) (h.mid_key he).1 rfl rfl
  rw [show Ent.val { e with mark := e.vals.length - 1 } = .agg #[.slice (some ⟨e.blk, e.off, none⟩) e.vals.length e.cap, .int .i64 ((e.vals.length : Int) - 1)] from by simp [Ent.val]; omega] at hput
  have H := Lib.hid h
  have HE := Lib.hid he
  clear h hm0 he
  go_enter Try.func56, Try.ntmps56
  go_wp2
  go_region
  go_end0
  have h := H.out
  have he := HE.out
  refine ⟨rfl, mid_res h he rfl rfl rfl ?_ ?_⟩
  · exact Off.drew (Off.alloc (Off.refl _ _) _)
  · obtain ⟨cs, hcs, r⟩ := h.ent e (by rw [he]; simp)
    have hel := lt_of_some hcs
    exact ⟨cs, (Below.heap_alloc _ _ _ hel).trans hcs, r⟩
end
end Pm
end Go.Proofs.Ythfkbfbchoekjaa
