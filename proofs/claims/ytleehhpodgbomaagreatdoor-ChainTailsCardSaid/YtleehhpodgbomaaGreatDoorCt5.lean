/- Texts laid together: PmStore, PmAbs, PmFlush, PmMay, PmSes, PmLives, SupLives, CrcLine, SupTurned, SupRead. -/
import Derived.Test.YtleehhpodgbomaaGreatDoorCt4
import Derived.Lib.SliceRun
import Derived.Test.YtleehhpodgbomaaGreatDoorCt3
import Derived.RegionTactic
import Derived.ChangeAlike
import Derived.Test.YtleehhpodgbomaaGreatDoorCt1
import Derived.Test.YtleehhpodgbomaaGreatDoorCt2
/- The device's Store. -/
namespace Go.Proofs.YtleehhpodgbomaaGreatDoor
open Go.RowKit Go.MapKept
namespace Pm
section
variable {w : World} {a : Nat} {D : Dev}

theorem store_none (h : Rep w a D) (i : Int) (x : Int) (hi : D.hasB i = false) : Calls Tryz.prog 68 #[.pointer (some ⟨a, 0, none⟩), .int .i64 i, .int .u64 x] w fun e w' => e = .returned (.bool false) ∧ w = w' := by
  have hc := has_any h i
  rw [hi] at hc
  have H := Lib.hid hc
  clear hc hi h
  go_enter Tryz.func68, Tryz.ntmps68
  go_wp2_with (go_at_call 97; refine H.out.mono ?_; rintro e w' ⟨rfl, rfl⟩)
  go_ret
  exact ⟨rfl, rfl⟩

theorem store_down (h : Rep w a D) (i : Int) (x : Int) (hd : D.down = true) : Calls Tryz.prog 68 #[.pointer (some ⟨a, 0, none⟩), .int .i64 i, .int .u64 x] w fun e w' => e = .returned (.bool false) ∧ w = w' := by
  cases hi : D.hasB i
  · exact store_none h i x hi
  · have hc := has_any h i
    have hs := step_no h hd
    rw [hi] at hc
    have H := Lib.hid hc
    have HS := Lib.hid hs
    clear hc hi h hs hd
    go_enter Tryz.func68, Tryz.ntmps68
    go_wp2_with (first
      | (go_at_call 97; refine H.out.mono ?_; rintro e w' ⟨rfl, rfl⟩)
      | (go_at_call 103; refine HS.out.mono ?_; rintro e w' ⟨rfl, rfl⟩))
    go_ret
    exact ⟨rfl, rfl⟩

theorem step_res {w1 : World} (h : Rep w1 a D.stepped) (ho : Off (fun k => k = a) w w1) : Res w a D w1 D.stepped := ⟨h, ho.mono (fun _ _ h => .inl h), fun _ h => .inl h⟩

/-- the counts behind a store -/
def Dev.stored (D : Dev) : Dev := { D.stepped with stores := D.stores + 1 }
theorem stored_rep {w1 : World} (h : Rep w1 a D.stepped) : Res w1 a D.stepped (w1.setCell ⟨a, 1, none⟩ (.int .i64 ((D.stores : Int) + 1))) D.stored := by
  refine ⟨h.turn (D' := D.stored) ?_ (fun k hk hne => Below.heap_setCell _ _ _ _ hne) rfl rfl rfl rfl rfl rfl rfl rfl, (Off.refl _ _).setCell (fun _ => .inl rfl) _, fun k hk => .inl hk⟩
  rw [blk_set h.dev 1 _]
  simp [Dev.cells, Dev.stored, Dev.stepped]

/-- an entry turned, in its own block or in a new one -/
theorem put_res {w2 : World} (h : Rep w a D) {pre post : List Ent} {e e' : Ent} (he : D.ents = pre ++ e :: post) (e1 : e'.key = e.key) (e6 : e'.born = e.born) (hoff : Off (fun k => k = e.blk) w w2) (hl : e'.lies w2) (hb : e'.blk = e.blk ∨ w.heap.size ≤ e'.blk) :
    Res w a D (putMap w2 D.mb (pre ++ e' :: post) D.clock) { D with ents := pre ++ e' :: post } := by
  rcases hb with hb | hb
  · exact mid_res h he e1 e6 hb hoff hl
  have hnd := h.nodup
  rw [he, List.map_append, List.map_cons] at hnd
  have hmid := nodup_mid (List.nodup_cons.1 hnd).2
  have hmem : ∀ x, x ∈ pre ∨ x ∈ post → x ∈ D.ents := by intro x hx; rw [he]; simp only [List.mem_append, List.mem_cons]; rcases hx with hx | hx <;> simp [hx]
  have hoth : ∀ x, x ∈ pre ∨ x ∈ post → x.blk ≠ e.blk := by
    rintro x (hx | hx) hxe
    · exact hmid.1 (by rw [← hxe]; exact List.mem_map_of_mem hx)
    · exact hmid.2 (by rw [← hxe]; exact List.mem_map_of_mem hx)
  have hlt : ∀ x, x ∈ pre ∨ x ∈ post → x.blk < w.heap.size := fun x hx => h.foot_lt (.inr (.inr (.inr (.inl (List.mem_map_of_mem (hmem x hx))))))
  have hwl := lt_of_some h.wds
  refine ents_res h (pre ++ e' :: post) D.clock (hoff.mono (fun k _ hk => ?_)) ?_ ?_ ?_ (stamp_mid h.stamp he e6) ?_
  · subst hk; rw [he]; simp
  · intro x hx
    simp only [List.mem_append, List.mem_cons] at hx
    have hxx : x = e' ∨ (x ∈ pre ∨ x ∈ post) := by rcases hx with hx | hx | hx <;> simp [hx]
    rcases hxx with rfl | hx
    · exact hl
    · exact lies_keep (h.ent x (hmem x hx)) (hoff.block _ (hlt x hx) (hoth x hx))
  · rw [List.map_append, List.map_cons]
    have h1 := List.nodup_cons.1 hnd
    have h2 := List.nodup_append.1 h1.2
    have h3 := List.nodup_cons.1 h2.2.1
    have n1 : e'.blk ∉ pre.map Ent.blk := fun hx => by
      obtain ⟨x, hx, hxe⟩ := List.mem_map.1 hx
      have := hlt x (.inl hx); omega
    have n2 : e'.blk ∉ post.map Ent.blk := fun hx => by
      obtain ⟨x, hx, hxe⟩ := List.mem_map.1 hx
      have := hlt x (.inr hx); omega
    refine List.nodup_cons.2 ⟨?_, List.nodup_append.2 ⟨h2.1, List.nodup_cons.2 ⟨n2, h3.2⟩, ?_⟩⟩
    · intro hx
      simp only [List.mem_append, List.mem_cons] at hx
      rcases hx with hx | hx | hx
      · exact h1.1 (by simp only [List.mem_append]; exact .inl hx)
      · omega
      · exact h1.1 (by simp only [List.mem_append, List.mem_cons]; exact .inr (.inr hx))
    · intro x hx y hy hxy
      subst hxy
      rcases List.mem_cons.1 hy with rfl | hy
      · exact n1 hx
      · exact h2.2.2 _ hx _ (List.mem_cons_of_mem _ hy) rfl
  · rw [keys_mid he e1]; exact h.keys
  · intro x hx
    simp only [List.mem_append, List.mem_cons] at hx
    have hxx : x = e' ∨ (x ∈ pre ∨ x ∈ post) := by rcases hx with hx | hx | hx <;> simp [hx]
    rcases hxx with rfl | hx
    · exact .inr hb
    · exact .inl (List.mem_map_of_mem (hmem x hx))

/-- a word turned -/
theorem word_res (h : Rep w a D) (i : Nat) (hi : i < D.words.length) (x : Int) : Res w a D (w.setCell ⟨D.wb, i, none⟩ (.int .u64 x)) { D with words := D.words.set i x } := by
  have hnb : ∀ e ∈ D.ents, e.blk ≠ D.wb := fun e he hx => (List.nodup_cons.1 h.nodup).1 (by rw [← hx]; exact List.mem_map_of_mem he)
  refine ⟨⟨?_, ?_, ?_, ?_, ?_, h.nodup, h.keys, h.stamp⟩, (Off.refl _ _).setCell (fun _ => .inr (.inl rfl)) _, fun k hk => .inl hk⟩
  · rw [Below.heap_setCell _ _ _ _ h.ne_wb, h.dev]
    simp [Dev.cells]
  · have e : (u64s D.words ++ D.spare).toArray.setIfInBounds i (.int .u64 x) = (u64s (D.words.set i x) ++ D.spare).toArray := by
      rw [List.setIfInBounds_toArray, List.set_append_left _ _ (by simpa [u64s] using hi)]
      simp [u64s, List.map_set]
    rw [blk_set h.wds i _, e]
  · exact (Below.heap_setCell _ _ _ _ h.wb_mb.symm).trans h.map
  · exact fun e he => lies_keep (h.ent e he) (Below.heap_setCell _ _ _ _ (hnb e he))
  · refine row_keep h.mrk (fun g hg => Below.heap_setCell _ _ _ _ (fun e => h.u64_mkv h.wds (hg.trans (congrArg some e))))

/-- append to an entry's values, with room or without -/
theorem wpList_append_ent {P : Program} (W : World) {ops : Array Oper} {rest : List Oper} {o : Oper} {act : Act} {Q : Exit → Act → World → Prop}
    (hg : o.guard = none) (s y : Operand) (t : TypeId) (hop : o.op = Op.call { callee := Callee.builtin Builtin.append, args := #[s, y], argTypes := #[t, t] })
    (i : TypeInfo) (h1 : P.underlying t = some (.slice 71)) (h2 : P.info? 71 = some i) (h3 : i.zero = some (.int .u64 0)) (h4 : i.size = 1) (h5 : i.bytes = 8)
    (e : Ent) (hl : e.lies W) (hs : act.eval s = .slice (some ⟨e.blk, e.off, none⟩) e.vals.length e.cap) (x : Int) (ad : Addr) (c : Nat) (hx : act.eval y = .slice (some ad) 1 c) (hc : ∀ j u, [Value.int .u64 x][j]? = some u → W.cell? (ad.add j) = some u)
    (hv : e.vals.length < 1000000000000)
    (hK : ∀ blk off cap w', Ent.lies w' { e with vals := e.vals ++ [x], blk := blk, off := off, cap := cap } → Off (fun k => k = e.blk) W w' → (blk = e.blk ∨ W.heap.size ≤ blk) →
      wpList P ops Q rest (act.put o.dst (.slice (some ⟨blk, off, none⟩) (e.vals.length + 1) cap)) w') :
    wpList P ops Q (o :: rest) act W := by
  obtain ⟨cs, hcs, r1, r2, r3⟩ := hl
  have hcell : ∀ j u, (u64s e.vals)[j]? = some u → W.cell? ⟨e.blk, e.off + j, none⟩ = some u := by
    intro j u hj
    rw [blk_cell hcs, ← hj, ← r3]
    have hjl : j < e.vals.length := by
      have := (List.getElem?_eq_some_iff.1 hj).1
      simpa [u64s] using this
    rw [List.getElem?_take, if_pos hjl, List.getElem?_drop, Array.getElem?_toList]
  refine wpList_append_arg W hg s y t hop 71 i (.int .u64 0) 1 8 h1 h2 h3 h4 h5 rfl (by decide) e.blk e.off e.vals.length e.cap (u64s e.vals) hs (by simp [u64s]) hcell ad 1 c [.int .u64 x] hx rfl hc (by simp [Value.oneCell']) ?_ (by unfold maxLen; omega) (by omega) ?_ ?_
  · intro hr j hj
    have hj0 : j = 0 := by simpa using hj
    subst hj0
    refine ⟨?_, blk_frozen hcs _⟩
    rw [blk_cell hcs, Array.getElem?_eq_getElem (by omega)]
    rfl
  · intro hr
    refine hK e.blk e.off e.cap _ ⟨cs.setIfInBounds (e.off + e.vals.length) (.int .u64 x), ?_, ?_, ?_, ?_⟩ ?_ (.inl rfl)
    · simp only [World.setCells, Nat.mul_one]
      exact blk_set hcs _ _
    · simpa using r1
    · simpa using hr
    · show (((cs.setIfInBounds (e.off + e.vals.length) (.int .u64 x)).toList).drop e.off).take (e.vals ++ [x]).length = u64s (e.vals ++ [x])
      rw [Array.toList_setIfInBounds, List.drop_set, if_neg (by omega), show e.off + e.vals.length - e.off = e.vals.length by omega, List.length_append, List.length_singleton]
      have hlen : e.vals.length < (cs.toList.drop e.off).length := by simp; omega
      rw [List.take_set, List.take_add_one, r3, List.getElem?_eq_getElem hlen]
      simp [u64s]
    · simp only [World.setCells, Nat.mul_one]
      exact (Off.refl (fun k => k = e.blk) W).setCell (fun _ => rfl) _
  · intro hr v' w' hown hgr
    rcases hown.2 with ⟨_, h0⟩ | ⟨g, cap, cur, rfl, hb, hgb, q1, q2, q3, q4⟩
    · omega
    · refine hK g 0 cap w' ⟨cur, hgb, by simpa using q3.symm, by simpa using q1, ?_⟩ ?_ (.inr hb)
      · simpa [u64s] using q4
      · exact (Off.refl _ _).grown hgr (fun k hk => by cases hk)

/-- what holds behind the append, and what the map's store then does -/
theorem store_facts {w2 w5 : World} {pre post : List Ent} {e : Ent} {x : Int} {blk off cap : Nat} (h : Rep w2 a D) (he : D.ents = pre ++ e :: post) (hk : e.key < D.words.length)
    (hl : Ent.lies w5 { e with vals := e.vals ++ [x], blk := blk, off := off, cap := cap })
    (ho : Off (fun k => k = e.blk) ((w2.alloc (.cells #[.slice (some ⟨e.blk, e.off, none⟩) e.vals.length e.cap, .int .i64 (e.mark : Int)] 164)).alloc (.cells #[.int .u64 x] 71)) w5)
    (hb : blk = e.blk ∨ w2.heap.size + 2 ≤ blk) :
    w5.cell? ⟨a, 4, none⟩ = some (.slice (some ⟨D.wb, 0, none⟩) D.words.length D.wcap) ∧ w5.cell? ⟨a, 5, none⟩ = some (.map (some D.mb)) ∧
    w5.cell? ⟨w2.heap.size, 0, none⟩ = some (.slice (some ⟨e.blk, e.off, none⟩) e.vals.length e.cap) ∧ w5.cell? ⟨w2.heap.size, 1, none⟩ = some (.int .i64 (e.mark : Int)) ∧ w5.frozen? ⟨w2.heap.size, 0, none⟩ = false ∧
    ∃ w7, (Instr.mapUpdate 67 (.map (some D.mb)) (.int .i64 (e.key : Int)) (.agg #[.slice (some ⟨blk, off, none⟩) (e.vals.length + 1) cap, .int .i64 (e.mark : Int)])).run Tryz.prog (w5.setCell ⟨w2.heap.size, 0, none⟩ (.slice (some ⟨blk, off, none⟩) (e.vals.length + 1) cap)).drew = .ok () w7 ∧
      Res w2 a D w7 { D with ents := pre ++ { e with vals := e.vals ++ [x], blk := blk, off := off, cap := cap } :: post } ∧
      w7.cell? ⟨a, 4, none⟩ = some (.slice (some ⟨D.wb, 0, none⟩) D.words.length D.wcap) ∧ w7.cell? ⟨D.wb, e.key, none⟩ = some (.int .u64 D.words[e.key]) ∧ w7.frozen? ⟨D.wb, e.key, none⟩ = false := by
  have hel := h.foot_lt (k := e.blk) (.inr (.inr (.inr (.inl (by rw [he]; simp)))))
  have hae : a ≠ e.blk := h.ne_ent (by rw [he]; simp)
  have hal := h.lt
  have hml := lt_of_some h.map
  have hme : D.mb ≠ e.blk := by
    obtain ⟨cs, hcs, _⟩ := h.ent e (by rw [he]; simp)
    exact (blk_map hcs h.map).symm
  have hD : w5.heap[a]? = some (.cells D.cells 69 (0, 0)) := (ho.block a (by simp; omega) hae).trans (blk_alloc (blk_alloc h.dev _) _)
  have hN : w5.heap[w2.heap.size]? = some (.cells #[.slice (some ⟨e.blk, e.off, none⟩) e.vals.length e.cap, .int .i64 (e.mark : Int)] 164 (0, 0)) :=
    (ho.block _ (by simp; omega) (by omega)).trans (blk_alloc (heap_alloc w2 _).1 _)
  have hM : w5.heap[D.mb]? = some (.map ((pre ++ e :: post).map Ent.entry).toArray D.clock) := (ho.block _ (by simp; omega) hme).trans (blk_alloc (blk_alloc (by rw [← he]; exact h.map) _) _)
  have hM6 : (w5.setCell ⟨w2.heap.size, 0, none⟩ (.slice (some ⟨blk, off, none⟩) (e.vals.length + 1) cap)).drew.heap[D.mb]? = some (.map ((pre ++ e :: post).map Ent.entry).toArray D.clock) :=
    blk_far hM (by show D.mb ≠ w2.heap.size; omega) _
  have hput := run_put_some (e' := { e with vals := e.vals ++ [x], blk := blk, off := off, cap := cap }) hM6 (h.mid_key he).1 rfl rfl
  have hres := put_res (w2 := (w5.setCell ⟨w2.heap.size, 0, none⟩ (.slice (some ⟨blk, off, none⟩) (e.vals.length + 1) cap)).drew) h he (e' := { e with vals := e.vals ++ [x], blk := blk, off := off, cap := cap }) rfl rfl
    (Off.drew (Off.setCell (((Off.refl _ _).alloc _).alloc _ |>.trans ho (fun _ _ h => h)) (fun hx => absurd hx (Nat.lt_irrefl _)) _)) (by
      obtain ⟨cs, hcs, r⟩ := hl
      exact ⟨cs, blk_far hcs (by show blk ≠ w2.heap.size; omega) _, r⟩) (by
      rcases hb with hb | hb
      · exact .inl hb
      · exact .inr (by show w2.heap.size ≤ blk; omega))
  refine ⟨blk_cell hD 4, blk_cell hD 5, blk_cell hN 0, blk_cell hN 1, blk_frozen hN 0, _, ?_, hres, hres.rep.c4, ?_, blk_frozen hres.rep.wds _⟩
  · rw [← hput]
    simp [Ent.val]
  · exact hres.rep.word e.key hk

set_option maxHeartbeats 1600000 in
set_option maxRecDepth 100000 in
theorem store_old (h : Rep w a D) (x : Int) (hd : D.down = false) (pre post : List Ent) (e : Ent) (he : D.ents = pre ++ e :: post) (hk : e.key < D.words.length) (hs : D.steps < 4611686018427387904) (hl : D.left < 4611686018427387904) (hst : D.stores < 4611686018427387904) (hv : e.vals.length < 1000000000000) :
    Calls Tryz.prog 68 #[.pointer (some ⟨a, 0, none⟩), .int .i64 (e.key : Int), .int .u64 x] w fun r w' => r = .returned (.bool true) ∧ ∃ blk off cap,
      Res w a D w' { D.stored with words := D.words.set e.key x, ents := pre ++ { e with vals := e.vals ++ [x], blk := blk, off := off, cap := cap } :: post } := by
  obtain ⟨i0, hi0, hz0, hz1, hz2⟩ := info_parts u64_info
  have hc := has_any h (e.key : Int)
  rw [has_yes (by omega) (by omega)] at hc
  have H1 := Lib.hid hc
  have H2 := Lib.hid (step_yes h hd hs hl)
  have H := Lib.hid h
  have HE := Lib.hid he
  clear hc h he hd hs hl
  go_enter Tryz.func68, Tryz.ntmps68
  go_wp2_with (first
    | (go_at_call 97; refine H1.out.mono ?_; rintro e w' ⟨rfl, rfl⟩)
    | (go_at_call 103; refine H2.out.mono ?_; rintro r w1 ⟨rfl, hr1, ho1, hz1s⟩
       have c1 : w1.cell? ⟨a, 1, none⟩ = some (.int .i64 (D.stores : Int)) := hr1.c1
       have c4 : w1.cell? ⟨a, 4, none⟩ = some (.slice (some ⟨D.wb, 0, none⟩) D.words.length D.wcap) := hr1.c4
       have c5 : w1.cell? ⟨a, 5, none⟩ = some (.map (some D.mb)) := hr1.c5
       have f1 := hr1.frozen 1
       have hlt := hr1.lt
       have hr2 := stored_rep hr1
       have hm2 : (w1.setCell ⟨a, 1, none⟩ (.int .i64 ((D.stores : Int) + 1))).heap[D.mb]? = some (.map ((pre ++ e :: post).map Ent.entry).toArray D.clock) := by
         rw [← HE.out]; exact hr2.rep.map
       have hlk := run_look_some hm2 (H.out.mid_key HE.out).1 true
       simp only [if_true, Ent.val] at hlk
       have hl4 : e.lies (((w1.setCell ⟨a, 1, none⟩ (.int .i64 ((D.stores : Int) + 1))).alloc (.cells #[.slice (some ⟨e.blk, e.off, none⟩) e.vals.length e.cap, .int .i64 (e.mark : Int)] 164)).alloc (.cells #[.int .u64 x] 71)) := by
         have hl := hr2.rep.ent e (by show e ∈ D.ents; rw [HE.out]; simp)
         obtain ⟨cs, hcs, r⟩ := hl
         exact ⟨cs, blk_alloc (blk_alloc hcs _) _, r⟩
       have HL4 := Lib.hid hl4
       have HR1 := Lib.hid hr1
       have HR2 := Lib.hid hr2
       have HO1 := Lib.hid ho1
       have HZ := Lib.hid hz1s
       clear hr1 hr2 ho1 hz1s hm2 hl4)
    | (at_builtin; refine wpList_append_ent _ rfl (.tmp 40) (.tmp 42) 22 rfl i0 Tryz.underlying22 hi0 hz0 hz1 hz2 e HL4.out rfl x ⟨w1.heap.size + 1, 0, none⟩ 1 rfl ?_ hv ?_
       · have := cell_one_new2 (w1.setCell ⟨a, 1, none⟩ (.int .i64 ((D.stores : Int) + 1))) (.cells #[.slice (some ⟨e.blk, e.off, none⟩) e.vals.length e.cap, .int .i64 (e.mark : Int)] 164) (.int .u64 x) 71
         simpa [World.setCell] using this
       intro blk off cap w5 hl5 ho5 hb5
       have hz2s : (w1.setCell ⟨a, 1, none⟩ (.int .i64 ((D.stores : Int) + 1))).heap.size = w1.heap.size := by simp [World.setCell]
       obtain ⟨k4, k5, k0, k1, e0, w7, hput, HR7, j4, jw, jf⟩ := store_facts HR2.out.rep HE.out hk hl5 ho5 (by rw [hz2s]; simpa [World.setCell] using hb5)
       rw [hz2s] at k0 k1 e0 hput
       have HX := Lib.hid HR7
       clear HR7 hl5 ho5 hb5 hz2s))
  have hDw : D.stored.words = D.words := rfl
  have hDb : D.stored.wb = D.wb := rfl
  have hDm : D.stored.mb = D.mb := rfl
  simp only [hDw, hDb, hDm] at k4 k5 hput j4 jw jf
  go_region
  go_wp2
  go_ret
  have hfin := word_res HX.out.rep e.key hk x
  refine ⟨rfl, blk, off, cap, ?_⟩
  exact (((step_res HR1.out HO1.out).trans HR2.out).trans HX.out).trans hfin

theorem stamp_snoc {l : List Ent} {e : Ent} {c : Nat} (h : Stamp l c) (hb : e.born = c) : Stamp (l ++ [e]) (c + 1) := by
  refine ⟨?_, ?_⟩
  · intro x hx
    rcases List.mem_append.1 hx with hx | hx
    · have := h.1 x hx; omega
    · rw [List.mem_singleton.1 hx]; omega
  · rw [List.map_append]
    refine List.nodup_append.2 ⟨h.2, by simp, ?_⟩
    intro x hx y hy hxy
    have hy : y = e.born := by simpa using hy
    obtain ⟨z, hz, rfl⟩ := List.mem_map.1 hx
    have := h.1 z hz
    omega

/-- a new entry -/
theorem fresh_res {w2 : World} (h : Rep w a D) (e : Ent) (hk : e.key ∉ D.ents.map Ent.key) (hoff : Off (fun _ => False) w w2) (hl : e.lies w2) (hb : w.heap.size ≤ e.blk) (hbn : e.born = D.clock) :
    Res w a D (putMap w2 D.mb (D.ents ++ [e]) (D.clock + 1)) { D with ents := D.ents ++ [e], clock := D.clock + 1 } := by
  have hlt : ∀ x ∈ D.ents, x.blk < w.heap.size := fun x hx => h.foot_lt (.inr (.inr (.inr (.inl (List.mem_map_of_mem hx)))))
  have hwl := lt_of_some h.wds
  have hnd := List.nodup_cons.1 h.nodup
  refine ents_res h (D.ents ++ [e]) (D.clock + 1) (hoff.mono (fun _ _ h => h.elim)) ?_ ?_ ?_ (stamp_snoc h.stamp hbn) ?_
  · intro x hx
    rcases List.mem_append.1 hx with hx | hx
    · exact lies_keep (h.ent x hx) (hoff.block _ (hlt x hx) id)
    · rw [List.mem_singleton.1 hx]; exact hl
  · rw [List.map_append]
    have n1 : e.blk ∉ D.ents.map Ent.blk := fun hx => by
      obtain ⟨x, hx, hxe⟩ := List.mem_map.1 hx
      have := hlt x hx; omega
    refine List.nodup_cons.2 ⟨?_, List.nodup_append.2 ⟨hnd.2, by simp, ?_⟩⟩
    · intro hx
      rcases List.mem_append.1 hx with hx | hx
      · exact hnd.1 hx
      · have : D.wb = e.blk := by simpa using hx
        omega
    · intro x hx y hy hxy
      have : y = e.blk := by simpa using hy
      subst hxy this
      exact n1 hx
  · rw [List.map_append]
    refine List.nodup_append.2 ⟨h.keys, by simp, ?_⟩
    intro x hx y hy hxy
    have : y = e.key := by simpa using hy
    subst hxy this
    exact hk hx
  · intro x hx
    rcases List.mem_append.1 hx with hx | hx
    · exact .inl (List.mem_map_of_mem hx)
    · rw [List.mem_singleton.1 hx]; exact .inr hb

theorem new_facts {w2 : World} {k : Nat} {v x : Int} (h : Rep w2 a D) (hk : k < D.words.length) (hn : k ∉ D.ents.map Ent.key) :
    ∃ w7, (Instr.mapUpdate 67 (.map (some D.mb)) (.int .i64 (k : Int)) (.agg #[.slice (some ⟨w2.heap.size + 1, 0, none⟩) 2 2, .int .i64 0])).run Tryz.prog
        ((w2.alloc (.cells #[.slice (some ⟨w2.heap.size + 1, 0, none⟩) 2 2, .int .i64 0] 164)).alloc (.cells #[.int .u64 v, .int .u64 x] 71)).drew = .ok () w7 ∧
      Res w2 a D w7 { D with ents := D.ents ++ [⟨k, [v, x], 0, w2.heap.size + 1, 0, 2, D.clock⟩], clock := D.clock + 1 } ∧
      w7.cell? ⟨a, 4, none⟩ = some (.slice (some ⟨D.wb, 0, none⟩) D.words.length D.wcap) ∧ w7.cell? ⟨D.wb, k, none⟩ = some (.int .u64 D.words[k]) ∧ w7.frozen? ⟨D.wb, k, none⟩ = false := by
  have hN : ((w2.alloc (.cells #[.slice (some ⟨w2.heap.size + 1, 0, none⟩) 2 2, .int .i64 0] 164)).alloc (.cells #[.int .u64 v, .int .u64 x] 71)).heap[w2.heap.size + 1]? = some (.cells #[.int .u64 v, .int .u64 x] 71 (0, 0)) := by
    have := (heap_alloc (w2.alloc (.cells #[.slice (some ⟨w2.heap.size + 1, 0, none⟩) 2 2, .int .i64 0] 164)) (.cells #[.int .u64 v, .int .u64 x] 71)).1
    rw [World.size_alloc] at this
    exact this
  have hM : ((w2.alloc (.cells #[.slice (some ⟨w2.heap.size + 1, 0, none⟩) 2 2, .int .i64 0] 164)).alloc (.cells #[.int .u64 v, .int .u64 x] 71)).drew.heap[D.mb]? = some (.map (D.ents.map Ent.entry).toArray D.clock) := blk_alloc (blk_alloc h.map _) _
  have hput := run_put_none (e := ⟨k, [v, x], 0, w2.heap.size + 1, 0, 2, D.clock⟩) hM hn rfl
  have hres := fresh_res (w2 := ((w2.alloc (.cells #[.slice (some ⟨w2.heap.size + 1, 0, none⟩) 2 2, .int .i64 0] 164)).alloc (.cells #[.int .u64 v, .int .u64 x] 71)).drew) h ⟨k, [v, x], 0, w2.heap.size + 1, 0, 2, D.clock⟩ hn
    (Off.drew (((Off.refl _ _).alloc _).alloc _)) ⟨_, hN, by simp, by simp, by simp [u64s]⟩ (by show w2.heap.size ≤ w2.heap.size + 1; omega) rfl
  refine ⟨_, hput, hres, hres.rep.c4, ?_, blk_frozen hres.rep.wds _⟩
  exact hres.rep.word k hk

set_option maxHeartbeats 1600000 in
set_option maxRecDepth 100000 in
theorem store_new (h : Rep w a D) (x : Int) (hd : D.down = false) (k : Nat) (hk : k < D.words.length) (hn : k ∉ D.ents.map Ent.key) (hs : D.steps < 4611686018427387904) (hl : D.left < 4611686018427387904) (hst : D.stores < 4611686018427387904) :
    Calls Tryz.prog 68 #[.pointer (some ⟨a, 0, none⟩), .int .i64 (k : Int), .int .u64 x] w fun r w' => r = .returned (.bool true) ∧ ∃ blk off cap born clock,
      Res w a D w' { D.stored with words := D.words.set k x, ents := D.ents ++ [⟨k, [D.words[k], x], 0, blk, off, cap, born⟩], clock := clock } := by
  obtain ⟨i0, hi0, hz0, hz1, hz2⟩ := info_parts u64_info
  have hc := has_any h (k : Int)
  rw [has_yes (by omega) (by omega)] at hc
  have H1 := Lib.hid hc
  have H2 := Lib.hid (step_yes h hd hs hl)
  have H := Lib.hid h
  have HN := Lib.hid hn
  clear hc h hd hs hl hn
  go_enter Tryz.func68, Tryz.ntmps68
  go_wp2_with (first
    | (go_at_call 97; refine H1.out.mono ?_; rintro e w' ⟨rfl, rfl⟩)
    | (go_at_call 103; refine H2.out.mono ?_; rintro r w1 ⟨rfl, hr1, ho1, hz1s⟩
       have c1 : w1.cell? ⟨a, 1, none⟩ = some (.int .i64 (D.stores : Int)) := hr1.c1
       have c4 : w1.cell? ⟨a, 4, none⟩ = some (.slice (some ⟨D.wb, 0, none⟩) D.words.length D.wcap) := hr1.c4
       have c5 : w1.cell? ⟨a, 5, none⟩ = some (.map (some D.mb)) := hr1.c5
       have cw : w1.cell? ⟨D.wb, k, none⟩ = some (.int .u64 D.words[k]) := hr1.word k hk
       have f1 := hr1.frozen 1
       have hlt := hr1.lt
       have hwlt : D.wb < w1.heap.size := lt_of_some hr1.wds
       have hwne : D.wb ≠ a := hr1.ne_wb.symm
       have hr2 := stored_rep hr1
       have hlk := run_look_none (b := D.mb) (l := D.ents) (c := D.clock) hr2.rep.map HN.out true
       simp only [if_true] at hlk
       obtain ⟨w7, hput0, HR7, j40, jw0, jf0⟩ := new_facts (v := D.words[k]) (x := x) hr2.rep hk HN.out
       rw [show (w1.setCell ⟨a, 1, none⟩ (.int .i64 ((D.stores : Int) + 1))).heap.size = w1.heap.size from by simp [World.setCell]] at hput0
       have hput : (Instr.mapUpdate 67 (.map (some D.mb)) (.int .i64 (k : Int)) (.agg #[.slice (some ⟨w1.heap.size + 1, 0, none⟩) 2 2, .int .i64 0])).run Tryz.prog
        (((w1.setCell ⟨a, 1, none⟩ (.int .i64 ((D.stores : Int) + 1))).alloc (.cells #[.slice (some ⟨w1.heap.size + 1, 0, none⟩) 2 2, .int .i64 0] 164)).alloc (.cells #[.int .u64 D.words[k], .int .u64 x] 71)).drew = .ok () w7 := hput0
       have j4 : w7.cell? ⟨a, 4, none⟩ = some (.slice (some ⟨D.wb, 0, none⟩) D.words.length D.wcap) := j40
       have jw : w7.cell? ⟨D.wb, k, none⟩ = some (.int .u64 D.words[k]) := jw0
       have jf : w7.frozen? ⟨D.wb, k, none⟩ = false := jf0
       have HX := Lib.hid HR7
       have HR1 := Lib.hid hr1
       have HR2 := Lib.hid hr2
       have HO1 := Lib.hid ho1
       clear hr1 hr2 ho1 hz1s HR7 hput0 j40 jw0 jf0))
  go_region
  go_wp2
  go_ret
  have hfin := word_res HX.out.rep k hk x
  exact ⟨rfl, _, _, _, _, _, (((step_res HR1.out HO1.out).trans HR2.out).trans HX.out).trans hfin⟩
end
end Pm
end Go.Proofs.YtleehhpodgbomaaGreatDoor
/- The device without its memory: what its calls do to it, and what always holds of it. -/
namespace Go.Proofs.YtleehhpodgbomaaGreatDoor
open Go.RowKit Go.MapKept
namespace Pm

abbrev Pend := List (Nat × List Int × Nat)
def pget : Pend → Nat → Option (List Int × Nat)
  | [], _ => none
  | p :: r, k => if p.1 = k then some p.2 else pget r k
def pset : Pend → Nat → List Int × Nat → Pend
  | [], _, _ => []
  | p :: r, k, v => if p.1 = k then (k, v) :: r else p :: pset r k v
def pdel : Pend → Nat → Pend
  | [], _ => []
  | p :: r, k => if p.1 = k then r else p :: pdel r k

structure Abs where
  steps : Nat
  stores : Nat
  armed : Bool
  left : Nat
  words : List Int
  pend : Pend
  marked : List Nat

def Ent.abs (e : Ent) : Nat × List Int × Nat := (e.key, e.vals, e.mark)
def Dev.abs (D : Dev) : Abs := ⟨D.steps, D.stores, D.armed, D.left, D.words, D.ents.map Ent.abs, D.marked⟩

def Abs.down (A : Abs) : Bool := A.armed && A.left == 0
def Abs.step (A : Abs) : Abs := { A with steps := A.steps + 1, left := if A.armed then A.left - 1 else A.left }
def Abs.mark (A : Abs) (k : Nat) : Abs :=
  match pget A.pend k with
  | none => A
  | some (vs, m) => { A with pend := pset A.pend k (vs, vs.length - 1), marked := if m = 0 then A.marked ++ [k] else A.marked }
def Abs.settle (A : Abs) (k : Nat) : Abs :=
  match pget A.pend k with
  | none => A
  | some (vs, m) => if m + 1 = vs.length then { A with pend := pdel A.pend k } else { A with pend := pset A.pend k (vs.drop m, 0) }
def Abs.store (A : Abs) (k : Nat) (x : Int) : Abs :=
  { A.step with stores := A.stores + 1, words := A.words.set k x, pend :=
      match pget A.pend k with
      | none => A.pend ++ [(k, [A.words[k]?.getD 0, x], 0)]
      | some (vs, m) => pset A.pend k (vs ++ [x], m) }

/-! the list of what is pending -/
theorem pget_mid {k : Nat} {v : List Int × Nat} {post : Pend} : ∀ {pre : Pend}, k ∉ pre.map (·.1) → pget (pre ++ (k, v) :: post) k = some v
  | [], _ => by simp [pget]
  | p :: r, h => by
    simp only [List.map_cons, List.mem_cons, not_or] at h
    simp only [List.cons_append, pget, if_neg (Ne.symm h.1)]
    exact pget_mid h.2
theorem pset_mid {k : Nat} {v u : List Int × Nat} {post : Pend} : ∀ {pre : Pend}, k ∉ pre.map (·.1) → pset (pre ++ (k, v) :: post) k u = pre ++ (k, u) :: post
  | [], _ => by simp [pset]
  | p :: r, h => by
    simp only [List.map_cons, List.mem_cons, not_or] at h
    simp only [List.cons_append, pset, if_neg (Ne.symm h.1)]
    rw [pset_mid h.2]
theorem pdel_mid {k : Nat} {v : List Int × Nat} {post : Pend} : ∀ {pre : Pend}, k ∉ pre.map (·.1) → pdel (pre ++ (k, v) :: post) k = pre ++ post
  | [], _ => by simp [pdel]
  | p :: r, h => by
    simp only [List.map_cons, List.mem_cons, not_or] at h
    simp only [List.cons_append, pdel, if_neg (Ne.symm h.1)]
    rw [pdel_mid h.2]
theorem pget_none {k : Nat} : ∀ {l : Pend}, pget l k = none ↔ k ∉ l.map (·.1)
  | [] => by simp [pget]
  | p :: r => by
    simp only [pget, List.map_cons, List.mem_cons, not_or]
    split
    · rename_i h; simp [h]
    · rename_i h; rw [pget_none]; exact ⟨fun h2 => ⟨Ne.symm h, h2⟩, fun h2 => h2.2⟩
theorem pget_some {k : Nat} {v : List Int × Nat} : ∀ {l : Pend}, pget l k = some v → ∃ pre post, l = pre ++ (k, v) :: post ∧ k ∉ pre.map (·.1)
  | [], h => by simp [pget] at h
  | p :: r, h => by
    simp only [pget] at h
    split at h
    · rename_i hk
      injection h with h
      refine ⟨[], r, ?_, by simp⟩
      obtain ⟨p1, p2⟩ := p
      simp at hk h
      subst hk h
      rfl
    · rename_i hk
      obtain ⟨pre, post, e, hn⟩ := pget_some h
      refine ⟨p :: pre, post, by rw [e]; rfl, ?_⟩
      simp only [List.map_cons, List.mem_cons, not_or]
      exact ⟨Ne.symm hk, hn⟩
theorem pget_mem {k : Nat} {v : List Int × Nat} {l : Pend} (h : pget l k = some v) : (k, v) ∈ l := by
  obtain ⟨pre, post, rfl, _⟩ := pget_some h
  simp
theorem pset_keys {k : Nat} {u v : List Int × Nat} {l : Pend} (h : pget l k = some v) : (pset l k u).map (·.1) = l.map (·.1) := by
  obtain ⟨pre, post, rfl, hn⟩ := pget_some h
  rw [pset_mid hn]; simp
theorem pget_of_mem {p : Nat × List Int × Nat} {l : Pend} (hk : (l.map (·.1)).Nodup) (h : p ∈ l) : pget l p.1 = some p.2 := by
  obtain ⟨pre, post, rfl⟩ := List.append_of_mem h
  rw [List.map_append, List.map_cons] at hk
  exact pget_mid (nodup_mid hk).1

theorem nodup_lt : ∀ (n : Nat) (l : List Nat), l.Nodup → (∀ x ∈ l, x < n) → l.length ≤ n
  | 0, l, _, h => by
    cases l with
    | nil => simp
    | cons x r => exact absurd (h x (.head _)) (by omega)
  | n + 1, l, hn, h => by
    have ih := nodup_lt n (l.erase n) (hn.erase n) (fun x hx => by
      have hx := (List.Nodup.mem_erase_iff hn).1 hx
      have := h x hx.2
      have := hx.1
      omega)
    rw [List.length_erase] at ih
    split at ih <;> omega

/-- what always holds of a device, M being the marked words that aren't settled yet -/
structure Abs.OkM (A : Abs) (M : List Nat) : Prop where
  keys : (A.pend.map (·.1)).Nodup
  ent : ∀ p ∈ A.pend, p.1 < A.words.length ∧ 2 ≤ p.2.1.length ∧ p.2.2 < p.2.1.length ∧ p.2.1.length ≤ A.stores + 1
  mk0 : M.Nodup
  mk1 : ∀ k ∈ M, ∃ v, pget A.pend k = some v ∧ 0 < v.2
  mk2 : ∀ p ∈ A.pend, 0 < p.2.2 → p.1 ∈ M
  size : A.words.length ≤ 4194304
  cnt : A.stores ≤ A.steps
  few : A.steps < 100000000000
  fuse : A.left < 4611686018427387904
/-- what always holds of a device -/
def Abs.Ok (A : Abs) : Prop := A.OkM A.marked

theorem Abs.OkM.marked_le {A : Abs} {M : List Nat} (h : A.OkM M) : M.length ≤ 4194304 := by
  refine Nat.le_trans (nodup_lt A.words.length M h.mk0 (fun k hk => ?_)) h.size
  obtain ⟨v, hv, _⟩ := h.mk1 k hk
  exact (h.ent _ (pget_mem hv)).1

theorem pget_pset_ne {k k' : Nat} {u : List Int × Nat} (hne : k ≠ k') : ∀ l : Pend, pget (pset l k u) k' = pget l k'
  | [] => rfl
  | p :: r => by
    simp only [pset]
    split
    · rename_i h
      simp only [pget]
      rw [if_neg hne, if_neg (by rw [h]; exact hne)]
    · simp only [pget]
      rw [pget_pset_ne hne r]
theorem pget_pdel_ne {k k' : Nat} (hne : k ≠ k') : ∀ l : Pend, pget (pdel l k) k' = pget l k'
  | [] => rfl
  | p :: r => by
    simp only [pdel]
    split
    · rename_i h
      simp only [pget]
      rw [if_neg (by rw [h]; exact hne)]
    · simp only [pget]
      rw [pget_pdel_ne hne r]
theorem pget_append_ne {k k' : Nat} {v : List Int × Nat} (hne : k ≠ k') : ∀ l : Pend, pget (l ++ [(k, v)]) k' = pget l k'
  | [] => by simp [pget, hne]
  | p :: r => by
    simp only [List.cons_append, pget]
    rw [pget_append_ne hne r]
theorem pget_pset {k : Nat} {u v : List Int × Nat} {l : Pend} (h : pget l k = some v) : pget (pset l k u) k = some u := by
  obtain ⟨pre, post, rfl, hn⟩ := pget_some h
  rw [pset_mid hn, pget_mid hn]
theorem mem_pset {k : Nat} {u v : List Int × Nat} {l : Pend} {p : Nat × List Int × Nat} (h : pget l k = some v) (hk : (l.map (·.1)).Nodup) (hp : p ∈ pset l k u) : p = (k, u) ∨ (p ∈ l ∧ p.1 ≠ k) := by
  obtain ⟨pre, post, rfl, hn⟩ := pget_some h
  rw [pset_mid hn] at hp
  rw [List.map_append, List.map_cons] at hk
  have hm : k ∉ pre.map (·.1) ∧ k ∉ post.map (·.1) := nodup_mid hk
  simp only [List.mem_append, List.mem_cons] at hp ⊢
  rcases hp with hp | hp | hp
  · exact .inr ⟨.inl hp, fun e => hm.1 (List.mem_map.2 ⟨p, hp, e⟩)⟩
  · exact .inl hp
  · exact .inr ⟨.inr (.inr hp), fun e => hm.2 (List.mem_map.2 ⟨p, hp, e⟩)⟩
theorem mem_pdel {k : Nat} {v : List Int × Nat} {l : Pend} {p : Nat × List Int × Nat} (h : pget l k = some v) (hk : (l.map (·.1)).Nodup) (hp : p ∈ pdel l k) : p ∈ l ∧ p.1 ≠ k := by
  obtain ⟨pre, post, rfl, hn⟩ := pget_some h
  rw [pdel_mid hn] at hp
  rw [List.map_append, List.map_cons] at hk
  have hm : k ∉ pre.map (·.1) ∧ k ∉ post.map (·.1) := nodup_mid hk
  simp only [List.mem_append, List.mem_cons] at hp ⊢
  rcases hp with hp | hp
  · exact ⟨.inl hp, fun e => hm.1 (List.mem_map.2 ⟨p, hp, e⟩)⟩
  · exact ⟨.inr (.inr hp), fun e => hm.2 (List.mem_map.2 ⟨p, hp, e⟩)⟩
theorem pdel_keys {k : Nat} {v : List Int × Nat} {l : Pend} (h : pget l k = some v) (hk : (l.map (·.1)).Nodup) : ((pdel l k).map (·.1)).Nodup := by
  obtain ⟨pre, post, rfl, hn⟩ := pget_some h
  rw [pdel_mid hn]
  refine List.Nodup.sublist (List.Sublist.map _ ?_) hk
  exact List.Sublist.append (List.Sublist.refl _) (List.sublist_cons_self _ _)

theorem step_ok {A : Abs} {M : List Nat} (h : A.OkM M) (hs : A.steps + 1 < 100000000000) : A.step.OkM M := {
  keys := h.keys
  ent := h.ent
  mk0 := h.mk0
  mk1 := h.mk1
  mk2 := h.mk2
  size := h.size
  cnt := Nat.le_succ_of_le h.cnt
  few := hs
  fuse := by
    have := h.fuse
    simp only [Abs.step]
    split <;> omega }

theorem mark_ok {A : Abs} (h : A.Ok) (k : Nat) : (A.mark k).Ok := by
  unfold Abs.Ok Abs.mark
  cases hg : pget A.pend k with
  | none => exact h
  | some v =>
    obtain ⟨vs, m⟩ := v
    have he := h.ent _ (pget_mem hg)
    refine ⟨?_, ?_, ?_, ?_, ?_, h.size, h.cnt, h.few, h.fuse⟩
    · simp only [pset_keys hg]; exact h.keys
    · intro p hp
      rcases mem_pset hg h.keys hp with rfl | ⟨hp, _⟩
      · simp only at he ⊢
        omega
      · exact h.ent p hp
    · by_cases hm : m = 0
      · simp only [hm, if_true]
        refine List.nodup_append.2 ⟨h.mk0, by simp, ?_⟩
        intro x hx y hy hxy
        have : y = k := by simpa using hy
        subst this hxy
        obtain ⟨v, hv, h0⟩ := h.mk1 _ hx
        rw [hg] at hv
        injection hv with hv
        subst hv
        simp only at h0
        omega
      · simp only [hm, if_false]; exact h.mk0
    · intro x hx
      by_cases hxk : k = x
      · subst hxk
        exact ⟨_, pget_pset hg, by simp only at he ⊢; omega⟩
      · have hx : x ∈ A.marked := by
          by_cases hm : m = 0
          · simp only [hm, if_true, List.mem_append, List.mem_singleton] at hx
            exact hx.resolve_right (Ne.symm hxk)
          · simpa only [hm, if_false] using hx
        obtain ⟨v, hv, h0⟩ := h.mk1 x hx
        exact ⟨v, by rw [pget_pset_ne hxk]; exact hv, h0⟩
    · intro p hp h0
      rcases mem_pset hg h.keys hp with rfl | ⟨hp, _⟩
      · by_cases hm : m = 0
        · simp [hm]
        · simp only [hm, if_false]
          exact h.mk2 _ (pget_mem hg) (by simp only; omega)
      · have := h.mk2 p hp h0
        by_cases hm : m = 0
        · simp [hm, this]
        · simpa only [hm, if_false] using this

theorem settle_ok {A : Abs} {k : Nat} {M : List Nat} (h : A.OkM (k :: M)) : (A.settle k).OkM M := by
  obtain ⟨v, hg, h0⟩ := h.mk1 k (.head _)
  obtain ⟨vs, m⟩ := v
  have he := h.ent _ (pget_mem hg)
  have hnk := List.nodup_cons.1 h.mk0
  simp only at he h0
  unfold Abs.settle
  simp only [hg]
  by_cases hm : m + 1 = vs.length
  · simp only [hm, if_true]
    refine ⟨pdel_keys hg h.keys, ?_, hnk.2, ?_, ?_, h.size, h.cnt, h.few, h.fuse⟩
    · intro p hp
      exact h.ent p (mem_pdel hg h.keys hp).1
    · intro x hx
      obtain ⟨v, hv, h1⟩ := h.mk1 x (.tail _ hx)
      refine ⟨v, ?_, h1⟩
      rw [pget_pdel_ne (fun e => hnk.1 (by rw [e]; exact hx))]
      exact hv
    · intro p hp hp0
      have hp := mem_pdel hg h.keys hp
      exact (List.mem_cons.1 (h.mk2 p hp.1 hp0)).resolve_left hp.2
  · simp only [hm, if_false]
    refine ⟨?_, ?_, hnk.2, ?_, ?_, h.size, h.cnt, h.few, h.fuse⟩
    · simp only [pset_keys hg]; exact h.keys
    · intro p hp
      rcases mem_pset hg h.keys hp with rfl | ⟨hp, _⟩
      · simp only [List.length_drop]
        omega
      · exact h.ent p hp
    · intro x hx
      obtain ⟨v, hv, h1⟩ := h.mk1 x (.tail _ hx)
      refine ⟨v, ?_, h1⟩
      rw [pget_pset_ne (fun e => hnk.1 (by rw [e]; exact hx))]
      exact hv
    · intro p hp hp0
      rcases mem_pset hg h.keys hp with rfl | ⟨hp, hne⟩
      · simp at hp0
      · exact (List.mem_cons.1 (h.mk2 p hp hp0)).resolve_left hne

theorem store_ok {A : Abs} (h : A.Ok) {k : Nat} (hk : k < A.words.length) (x : Int) (hs : A.steps + 1 < 100000000000) : (A.store k x).Ok := by
  have hc := h.cnt
  have hf := (step_ok h hs).fuse
  unfold Abs.Ok Abs.store
  cases hg : pget A.pend k with
  | none =>
    have hn := pget_none.1 hg
    refine ⟨?_, ?_, h.mk0, ?_, ?_, by simpa [Abs.step] using h.size, Nat.succ_le_succ h.cnt, hs, hf⟩
    · simp only [List.map_append]
      refine List.nodup_append.2 ⟨h.keys, by simp, ?_⟩
      intro a ha b hb hab
      have : b = k := by simpa using hb
      subst this hab
      exact hn ha
    · intro p hp
      rcases List.mem_append.1 hp with hp | hp
      · have := h.ent p hp
        simp only [List.length_set]
        omega
      · rw [List.mem_singleton.1 hp]
        simp only [List.length_set, List.length_cons, List.length_nil]
        omega
    · intro y hy
      obtain ⟨v, hv, h0⟩ := h.mk1 y hy
      refine ⟨v, ?_, h0⟩
      rw [pget_append_ne (fun e => by subst e; rw [hg] at hv; cases hv)]
      exact hv
    · intro p hp hp0
      rcases List.mem_append.1 hp with hp | hp
      · exact h.mk2 p hp hp0
      · rw [List.mem_singleton.1 hp] at hp0
        simp at hp0
  | some v =>
    obtain ⟨vs, m⟩ := v
    have he := h.ent _ (pget_mem hg)
    refine ⟨?_, ?_, h.mk0, ?_, ?_, by simpa [Abs.step] using h.size, Nat.succ_le_succ h.cnt, hs, hf⟩
    · simp only [pset_keys hg]; exact h.keys
    · intro p hp
      rcases mem_pset hg h.keys hp with rfl | ⟨hp, _⟩
      · simp only [List.length_set, List.length_append, List.length_singleton] at he ⊢
        omega
      · have := h.ent p hp
        simp only [List.length_set]
        omega
    · intro y hy
      obtain ⟨v, hv, h0⟩ := h.mk1 y hy
      by_cases hyk : k = y
      · subst hyk
        rw [hg] at hv
        injection hv with hv
        subst hv
        exact ⟨_, pget_pset hg, h0⟩
      · exact ⟨v, by rw [pget_pset_ne hyk]; exact hv, h0⟩
    · intro p hp hp0
      rcases mem_pset hg h.keys hp with rfl | ⟨hp, _⟩
      · exact h.mk2 (k, vs, m) (pget_mem hg) hp0
      · exact h.mk2 p hp hp0

/-- from the list without memory to the entries -/
theorem ents_of_get {D : Dev} {k : Nat} {v : List Int × Nat} (h : pget D.abs.pend k = some v) : ∃ pre post e, D.ents = pre ++ e :: post ∧ e.key = k ∧ e.vals = v.1 ∧ e.mark = v.2 ∧ k ∉ (pre.map Ent.abs).map (·.1) := by
  obtain ⟨p, q, hpq, hn⟩ := pget_some h
  have hpq : D.ents.map Ent.abs = p ++ (k, v) :: q := hpq
  obtain ⟨l1, l2, e1, rfl, e2⟩ := List.map_eq_append_iff.1 hpq
  obtain ⟨e, l3, rfl, e3, e4⟩ := List.map_eq_cons_iff.1 e2
  subst e4
  refine ⟨l1, l3, e, e1, ?_, ?_, ?_, hn⟩
  · exact congrArg (·.1) e3
  · exact congrArg (·.2.1) e3
  · exact congrArg (·.2.2) e3
theorem keys_abs (D : Dev) : D.abs.pend.map (·.1) = D.ents.map Ent.key := by simp [Dev.abs, Ent.abs]

section
variable {w : World} {a : Nat} {D : Dev}
theorem mark_any (h : Rep w a D) (ok : D.abs.Ok) (k : Nat) : Calls Tryz.prog 105 #[.pointer (some ⟨a, 0, none⟩), .int .i64 (k : Int)] w fun r w' =>
    r = .returned (.tuple #[]) ∧ ∃ D', Res w a D w' D' ∧ D'.abs = D.abs.mark k ∧ D'.wb = D.wb := by
  cases hg : pget D.abs.pend k with
  | none =>
    have hn : k ∉ D.ents.map Ent.key := by rw [← keys_abs]; exact pget_none.1 hg
    refine (mark_no h k hn).mono fun r w' ⟨hr, hres⟩ => ⟨hr, D, hres, ?_, rfl⟩
    simp [Abs.mark, hg]
  | some v =>
    obtain ⟨pre, post, e, he, rfl, hv, hm, hn⟩ := ents_of_get hg
    have hent := ok.ent _ (pget_mem hg)
    have hfew := ok.few
    have hcnt := ok.cnt
    simp only [← hv, ← hm] at hent
    have hst : D.abs.stores ≤ D.abs.steps := hcnt
    have hb : e.vals.length < 1000000000000 := by omega
    have hpend : D.abs.pend = pre.map Ent.abs ++ (e.key, e.vals, e.mark) :: post.map Ent.abs := by
      show D.ents.map Ent.abs = _
      rw [he]; simp [Ent.abs]
    obtain ⟨v1, v2⟩ := v
    simp only at hv hm
    subst hv hm
    rcases Nat.eq_zero_or_pos e.mark with hz | hz
    · have hml := ok.marked_le
      have hml : D.marked.length ≤ 4194304 := hml
      refine (mark_first h pre post e he hz (by omega) (by omega) hb).mono fun r w' ⟨hr, mka, mkc, hres⟩ => ⟨hr, _, hres, ?_, rfl⟩
      simp only [Abs.mark, hg, hz, if_true]
      rw [hpend, pset_mid hn]
      simp [Dev.abs, Ent.abs]
    · refine (mark_again h pre post e he hz (by omega) hb).mono fun r w' ⟨hr, hres⟩ => ⟨hr, _, hres, ?_, rfl⟩
      simp only [Abs.mark, hg]
      rw [hpend, pset_mid hn, if_neg (by omega)]
      simp [Dev.abs, Ent.abs]

theorem settle_any {M : List Nat} (h : Rep w a D) (k : Nat) (ok : D.abs.OkM (k :: M)) : Calls Tryz.prog 141 #[.pointer (some ⟨a, 0, none⟩), .int .i64 (k : Int)] w fun r w' =>
    r = .returned (.tuple #[]) ∧ ∃ D', Res w a D w' D' ∧ D'.abs = D.abs.settle k ∧ D'.mka = D.mka ∧ D'.mkc = D.mkc ∧ D'.marked = D.marked := by
  cases hg : pget D.abs.pend k with
  | none =>
    obtain ⟨v, hv, _⟩ := ok.mk1 k (.head _)
    rw [hg] at hv
    cases hv
  | some v =>
    obtain ⟨pre, post, e, he, rfl, hv, hm, hn⟩ := ents_of_get hg
    have hent := ok.ent _ (pget_mem hg)
    simp only [← hv, ← hm] at hent
    have hpend : D.abs.pend = pre.map Ent.abs ++ (e.key, e.vals, e.mark) :: post.map Ent.abs := by
      show D.ents.map Ent.abs = _
      rw [he]; simp [Ent.abs]
    obtain ⟨v1, v2⟩ := v
    simp only at hv hm
    subst hv hm
    obtain ⟨cs, _, _, hcap, _⟩ := h.ent e (by rw [he]; simp)
    by_cases hz : e.mark + 1 = e.vals.length
    · refine (settle_one h pre post e he hz hcap).mono fun r w' ⟨hr, hres⟩ => ⟨hr, _, hres, ?_, rfl, rfl, rfl⟩
      simp only [Abs.settle, hg, hz, if_true]
      rw [hpend, pdel_mid hn]
      simp [Dev.abs]
    · refine (settle_more h pre post e he (by omega) hcap).mono fun r w' ⟨hr, hres⟩ => ⟨hr, _, hres, ?_, rfl, rfl, rfl⟩
      simp only [Abs.settle, hg, hz, if_false]
      rw [hpend, pset_mid hn]
      simp [Dev.abs, Ent.abs]

theorem store_any (h : Rep w a D) (ok : D.abs.Ok) (hd : D.abs.down = false) (k : Nat) (x : Int) (hk : k < D.abs.words.length) :
    Calls Tryz.prog 68 #[.pointer (some ⟨a, 0, none⟩), .int .i64 (k : Int), .int .u64 x] w fun r w' => r = .returned (.bool true) ∧ ∃ D', Res w a D w' D' ∧ D'.abs = D.abs.store k x := by
  have hd : D.down = false := hd
  have h1 : D.steps < 4611686018427387904 := Nat.lt_trans (m := 100000000000) ok.few (by omega)
  have h2 : D.stores < 4611686018427387904 := Nat.lt_of_le_of_lt ok.cnt h1
  have hk : k < D.words.length := hk
  cases hg : pget D.abs.pend k with
  | none =>
    have hn : k ∉ D.ents.map Ent.key := by rw [← keys_abs]; exact pget_none.1 hg
    refine (store_new h x hd k hk hn h1 ok.fuse h2).mono fun r w' ⟨hr, _, _, _, _, _, hres⟩ => ⟨hr, _, hres, ?_⟩
    simp only [Abs.store, hg]
    simp [Dev.abs, Dev.stored, Dev.stepped, Abs.step, Ent.abs, List.getElem?_eq_getElem hk]
    rfl
  | some v =>
    obtain ⟨pre, post, e, he, rfl, hv, hm, hn⟩ := ents_of_get hg
    have hent := ok.ent _ (pget_mem hg)
    have hfew := ok.few
    have hcnt := ok.cnt
    simp only [← hv, ← hm] at hent
    have hb : e.vals.length < 1000000000000 := by omega
    have hpend : D.abs.pend = pre.map Ent.abs ++ (e.key, e.vals, e.mark) :: post.map Ent.abs := by
      show D.ents.map Ent.abs = _
      rw [he]; simp [Ent.abs]
    obtain ⟨v1, v2⟩ := v
    simp only at hv hm
    subst hv hm
    refine (store_old h x hd pre post e he hk h1 ok.fuse h2 hb).mono fun r w' ⟨hr, _, _, _, hres⟩ => ⟨hr, _, hres, ?_⟩
    simp only [Abs.store, hg]
    rw [hpend, pset_mid hn]
    simp [Dev.abs, Dev.stored, Dev.stepped, Abs.step, Ent.abs]
    rfl
end
end Pm
end Go.Proofs.YtleehhpodgbomaaGreatDoor
/- The device's Flush and Fence. -/
namespace Go.Proofs.YtleehhpodgbomaaGreatDoor
open Go.RowKit Go.MapKept
namespace Pm

def Abs.marks (A : Abs) (i : Nat) : Nat → Abs
  | 0 => A
  | n + 1 => (A.marks i n).mark (i + n)
def Abs.flush (A : Abs) (line : Nat) : Abs := A.step.marks (8 * line) (min 8 (A.words.length - 8 * line))

theorem mark_words (A : Abs) (k : Nat) : (A.mark k).words = A.words := by
  unfold Abs.mark; split <;> rfl
theorem marks_words (A : Abs) (i : Nat) : ∀ n, (A.marks i n).words = A.words
  | 0 => rfl
  | n + 1 => by rw [Abs.marks, mark_words, marks_words A i n]
theorem marks_ok {A : Abs} (h : A.Ok) (i : Nat) : ∀ n, (A.marks i n).Ok
  | 0 => h
  | n + 1 => mark_ok (marks_ok h i n) (i + n)
theorem flush_ok {A : Abs} (h : A.Ok) (line : Nat) (hs : A.steps + 1 < 100000000000) : (A.flush line).Ok := marks_ok (step_ok h hs) _ _

section
variable {w : World} {a : Nat} {D : Dev}

theorem flush_neg (line : Int) (hl : line < 0) : Calls Tryz.prog 70 #[.pointer (some ⟨a, 0, none⟩), .int .i64 line] w fun r w' => r = .returned (.bool false) ∧ w = w' := by
  go_enter Tryz.func70, Tryz.ntmps70
  go_wp2
  go_ret
  exact ⟨rfl, rfl⟩

theorem flush_far (h : Rep w a D) (line : Nat) (hl : (D.words.length + 7) / 8 ≤ line) (hw : D.words.length ≤ 4194304) : Calls Tryz.prog 70 #[.pointer (some ⟨a, 0, none⟩), .int .i64 (line : Int)] w fun r w' => r = .returned (.bool false) ∧ w = w' := by
  have c4 := h.c4
  obtain ⟨n, hn⟩ : ∃ n, n = D.words.length := ⟨_, rfl⟩
  rw [← hn] at c4 hl hw
  clear hn h
  have g1 : ((n : Int) + 8 - 1) / 8 ≤ (line : Int) := by omega
  clear hl
  go_enter Tryz.func70, Tryz.ntmps70
  go_wp2
  go_ret
  exact ⟨rfl, rfl⟩

theorem flush_down (h : Rep w a D) (line : Nat) (hl : line < (D.words.length + 7) / 8) (hw : D.words.length ≤ 4194304) (hd : D.down = true) : Calls Tryz.prog 70 #[.pointer (some ⟨a, 0, none⟩), .int .i64 (line : Int)] w fun r w' => r = .returned (.bool false) ∧ w = w' := by
  have c4 := h.c4
  have HS := Lib.hid (step_no h hd)
  obtain ⟨n, hn⟩ : ∃ n, n = D.words.length := ⟨_, rfl⟩
  rw [← hn] at c4 hl hw
  clear hn h hd
  have g1 : (line : Int) < ((n : Int) + 8 - 1) / 8 := by omega
  clear hl
  go_enter Tryz.func70, Tryz.ntmps70
  go_wp2_with (go_at_call 103; refine HS.out.mono ?_; rintro e w' ⟨rfl, rfl⟩)
  go_ret
  exact ⟨rfl, rfl⟩

/-- the loop's relation -/
def FlushRel (w : World) (a : Nat) (D : Dev) (line : Nat) (n : Nat) (wr : World) : Prop :=
  ∃ D' : Dev, Res w a D wr D' ∧ D'.abs = D.abs.step.marks (8 * line) n ∧ D'.wb = D.wb ∧ D'.words.length = D.words.length

theorem mark_at (h : Rep w a D) (ok : D.abs.Ok) (i : Int) (k : Nat) (hi : i = (k : Int)) : Calls Tryz.prog 105 #[.pointer (some ⟨a, 0, none⟩), .int .i64 i] w fun r w' =>
    r = .returned (.tuple #[]) ∧ ∃ D', Res w a D w' D' ∧ D'.abs = D.abs.mark k ∧ D'.wb = D.wb := by
  subst hi
  exact mark_any h ok k

theorem flush_step {wr : World} {line n : Nat} (ok : D.abs.Ok) (hs : D.steps + 1 < 100000000000) (h : FlushRel w a D line n wr) (i : Int) (hi : i = ((8 * line + n : Nat) : Int)) :
    Calls Tryz.prog 105 #[.pointer (some ⟨a, 0, none⟩), .int .i64 i] wr fun r w' => r = .returned (.tuple #[]) ∧ FlushRel w a D line (n + 1) w' := by
  obtain ⟨D', hres, habs, hwb, hlen⟩ := h
  have ok' : D'.abs.Ok := by rw [habs]; exact marks_ok (step_ok ok hs) _ _
  refine (mark_at hres.rep ok' i _ hi).mono fun r w' ⟨hr, D2, hres2, habs2, hwb2⟩ => ⟨hr, D2, hres.trans hres2, ?_, hwb2.trans hwb, ?_⟩
  · rw [habs2, habs]; rfl
  · have : D2.abs.words = D'.abs.words := by rw [habs2, mark_words]
    have : D2.words = D'.words := this
    rw [this, hlen]

theorem flush_c4 {wr : World} {line n : Nat} (h : FlushRel w a D line n wr) : ∃ c, wr.cell? ⟨a, 4, none⟩ = some (.slice (some ⟨D.wb, 0, none⟩) D.words.length c) := by
  obtain ⟨D', hres, habs, hwb, hlen⟩ := h
  exact ⟨D'.wcap, by rw [hres.rep.c4, hwb, hlen]⟩

set_option maxHeartbeats 1600000 in
set_option maxRecDepth 100000 in
theorem flush_yes (h : Rep w a D) (ok : D.abs.Ok) (hd : D.abs.down = false) (line : Nat) (hl : 8 * line < D.words.length) (hs : D.steps + 1 < 100000000000) :
    Calls Tryz.prog 70 #[.pointer (some ⟨a, 0, none⟩), .int .i64 (line : Int)] w fun r w' => r = .returned (.bool true) ∧ ∃ D', Res w a D w' D' ∧ D'.abs = D.abs.flush line := by
  have c4 := h.c4
  have hw : D.words.length ≤ 4194304 := ok.size
  have HS := Lib.hid (step_yes h hd (by omega) ok.fuse)
  have HF := fun wr n (x : FlushRel w a D line n wr) => flush_step ok hs x
  have HFS := Lib.hid HF
  have HC := Lib.hid (fun wr n (x : FlushRel w a D line n wr) => flush_c4 x)
  have hfl : D.abs.flush line = D.abs.step.marks (8 * line) (min 8 (D.words.length - 8 * line)) := rfl
  rw [hfl]
  obtain ⟨L, hL⟩ : ∃ L, L = D.words.length := ⟨_, rfl⟩
  rw [← hL] at c4 hw hl HC ⊢
  have g1 : decide ((line : Int) < 0) = false := by simp
  have g2 : decide (((L : Int) + 8 - 1) / 8 ≤ (line : Int)) = false := by simp; omega
  have H := Lib.hid h
  have HHL := Lib.hid hL
  clear h hd ok HF hL hfl
  go_enter Tryz.func70, Tryz.ntmps70
  go_wp2_with (go_at_call 103; refine HS.out.mono ?_; rintro e w1 ⟨rfl, hr1, ho1, hz1⟩
               have HR1 := Lib.hid (step_res hr1 ho1)
               clear hr1 ho1 hz1)
  go_loopw [6] (fun i wr => ∃ n : Nat, n ≤ min 8 (L - 8 * line) ∧ i = .int .i64 ((line : Int) * 8 + (n : Int)) ∧ FlushRel w a D line n wr) (fun i _ => (8 * line + 8) - (intOf i).toNat)
  case atStart => exact ⟨0, Nat.zero_le _, by simp, D.stepped, HR1.out, rfl, rfl, rfl⟩
  case round =>
    obtain ⟨n, hn, rfl, hrel⟩ := hrel
    obtain ⟨kc, k4⟩ := HC.out _ _ hrel
    have HREL := Lib.hid hrel
    clear hrel
    by_cases hq : L < 8 * line + 8
    · by_cases hlt : 8 * line + n < L
      · go_wp2_with (go_at_call 105; refine (HFS.out _ _ HREL.out _ (by omega)).mono ?_; rintro e w2 ⟨rfl, hr2⟩; have HR2 := Lib.hid hr2; clear hr2)
        go_roundw
        case rel => exact ⟨n + 1, by omega, by go_num, HR2.out⟩
        case measure => simp [intOf]; omega
      · go_wp2
        go_ret
        obtain ⟨D', hres, habs, _⟩ := HREL.out
        exact ⟨rfl, D', hres, by rw [habs, show min 8 (L - 8 * line) = n by omega]⟩
    · by_cases hlt : n < 8
      · go_wp2_with (go_at_call 105; refine (HFS.out _ _ HREL.out _ (by omega)).mono ?_; rintro e w2 ⟨rfl, hr2⟩; have HR2 := Lib.hid hr2; clear hr2)
        go_roundw
        case rel => exact ⟨n + 1, by omega, by go_num, HR2.out⟩
        case measure => simp [intOf]; omega
      · go_wp2
        go_ret
        obtain ⟨D', hres, habs, _⟩ := HREL.out
        exact ⟨rfl, D', hres, by rw [habs, show min 8 (L - 8 * line) = n by omega]⟩

def Abs.settles (A : Abs) : List Nat → Abs
  | [] => A
  | k :: r => (A.settle k).settles r
def Abs.fence (A : Abs) : Abs := { A.step.settles A.marked with marked := [] }
theorem settles_snoc (k : Nat) : ∀ (l : List Nat) (A : Abs), A.settles (l ++ [k]) = (A.settles l).settle k
  | [], _ => rfl
  | x :: r, A => settles_snoc k r (A.settle x)
theorem settle_marked (A : Abs) (k : Nat) : (A.settle k).marked = A.marked := by
  unfold Abs.settle
  split
  · rfl
  · split <;> rfl
theorem settles_ok : ∀ (l : List Nat) {M : List Nat} {A : Abs}, A.OkM (l ++ M) → (A.settles l).OkM M
  | [], _, _, h => h
  | _ :: r, _, _, h => settles_ok r (settle_ok h)
theorem fence_ok {A : Abs} (h : A.Ok) (hs : A.steps + 1 < 100000000000) : A.fence.Ok := by
  have h1 : A.step.OkM (A.marked ++ []) := by rw [List.append_nil]; exact step_ok h hs
  have h2 := settles_ok A.marked h1
  exact ⟨h2.keys, h2.ent, h2.mk0, h2.mk1, h2.mk2, h2.size, h2.cnt, h2.few, h2.fuse⟩

def FenceRel (w : World) (a : Nat) (D : Dev) (n : Nat) (wr : World) : Prop :=
  ∃ D' : Dev, Res w a D wr D' ∧ D'.abs = D.abs.step.settles (D.marked.take n) ∧ D'.marked = D.marked ∧ D'.mka = D.mka ∧ D'.mkc = D.mkc

theorem fence_step {wr : World} {n k : Nat} (ok : D.abs.Ok) (hs : D.steps + 1 < 100000000000) (h : FenceRel w a D n wr) (hn : n < D.marked.length) (hk : D.marked[n] = k) :
    Calls Tryz.prog 141 #[.pointer (some ⟨a, 0, none⟩), .int .i64 (k : Int)] wr fun r w' => r = .returned (.tuple #[]) ∧ FenceRel w a D (n + 1) w' := by
  obtain ⟨D', hres, habs, h1, h2, h3⟩ := h
  have hd : D.marked.drop n = k :: D.marked.drop (n + 1) := by rw [List.drop_eq_getElem_cons hn, hk]
  have ok' : D'.abs.OkM (k :: D.marked.drop (n + 1)) := by
    rw [habs, ← hd]
    refine settles_ok _ ?_
    rw [List.take_append_drop]
    exact step_ok ok hs
  refine (settle_any hres.rep k ok').mono fun r w' ⟨hr, D2, hres2, habs2, e1, e2, e3⟩ => ⟨hr, D2, hres.trans hres2, ?_, e3.trans h1, e1.trans h2, e2.trans h3⟩
  rw [habs2, habs, List.take_add_one, List.getElem?_eq_getElem hn, hk, Option.toList_some, settles_snoc]

theorem fence_cell {wr : World} {n k g : Nat} (h : FenceRel w a D n wr) (hn : n < D.marked.length) (hk : D.marked[n] = k) (hg : D.mka = some ⟨g, 0, none⟩) : wr.cell? ⟨g, n, none⟩ = some (.int .i64 (k : Int)) := by
  obtain ⟨D', hres, habs, h1, h2, h3⟩ := h
  rcases hres.rep.mrk.2 with ⟨e, h0⟩ | ⟨g', cap, cur, e, _, hb, _, _, hsz, ht⟩
  · rw [h1] at h0; omega
  · simp only [Dev.mkv, h2, hg] at e
    injection e with e
    injection e with e
    injection e with e
    subst e
    rw [blk_cell hb]
    have := congrArg (·[n]?) ht
    simp only [h1, Nat.mul_one, i64s] at this
    rw [List.getElem?_take, if_pos hn, List.getElem?_map, List.getElem?_eq_getElem hn, hk] at this
    rw [← Array.getElem?_toList]
    exact this
theorem fence_c6 {wr : World} {n : Nat} (h : FenceRel w a D n wr) : wr.cell? ⟨a, 6, none⟩ = some (.slice D.mka D.marked.length D.mkc) ∧ wr.frozen? ⟨a, 6, none⟩ = false := by
  obtain ⟨D', hres, habs, h1, h2, h3⟩ := h
  rw [hres.rep.c6, h1, h2, h3]
  exact ⟨rfl, hres.rep.frozen 6⟩

theorem own_len (A : Option Addr) (n m c : Nat) : (Value.slice A n c).ownBlock = (Value.slice A m c).ownBlock := by cases A <;> rfl

/-- the marks are gone -/
theorem unmark_res (h : Rep w a D) : Res w a D (w.setCell ⟨a, 6, none⟩ (.slice D.mka 0 D.mkc)) { D with marked := [] } := by
  have hm : w.ownsRow 0 3 1 (.slice D.mka 0 D.mkc) 0 [] := by
    refine ⟨by simp, ?_⟩
    rcases h.mrk.2 with ⟨e, h0⟩ | ⟨g', cap, cur, e, hx, hb, h1, h2, hsz, ht⟩
    · left
      simp only [Dev.mkv] at e
      injection e with e1 e2 e3
      rw [e1, e3]
      exact ⟨rfl, rfl⟩
    · right
      simp only [Dev.mkv] at e
      injection e with e1 e2 e3
      exact ⟨g', cap, cur, by rw [e1, e3], hx, hb, by omega, h2, hsz, by simp⟩
  have hnm : ∀ g, (Value.slice D.mka 0 D.mkc).ownBlock = some g → g ≠ a := fun g hg e => h.ne_mkv (by
    subst e
    rw [← hg]
    exact own_len _ _ _ _)
  refine ⟨⟨?_, ?_, ?_, ?_, ?_, h.nodup, h.keys, h.stamp⟩, (Off.refl _ _).setCell (fun _ => .inl rfl) _, ?_⟩
  · rw [blk_set h.dev 6 _]
    simp [Dev.cells]
  · exact (Below.heap_setCell _ _ _ _ h.ne_wb.symm).trans h.wds
  · exact (Below.heap_setCell _ _ _ _ h.ne_mb.symm).trans h.map
  · exact fun e he => lies_keep (h.ent e he) (Below.heap_setCell _ _ _ _ (h.ne_ent he).symm)
  · exact row_keep hm (fun g hg => Below.heap_setCell _ _ _ _ (hnm g hg))
  · rintro k (rfl | rfl | rfl | hk | hk)
    · exact .inl (.inl rfl)
    · exact .inl (.inr (.inl rfl))
    · exact .inl (.inr (.inr (.inl rfl)))
    · exact .inl (.inr (.inr (.inr (.inl hk))))
    · exact .inl (.inr (.inr (.inr (.inr ((own_len _ _ _ _).trans hk)))))

theorem fence_down (h : Rep w a D) (hd : D.down = true) : Calls Tryz.prog 117 #[.pointer (some ⟨a, 0, none⟩)] w fun r w' => r = .returned (.bool false) ∧ w = w' := by
  have HS := Lib.hid (step_no h hd)
  clear h hd
  go_enter Tryz.func117, Tryz.ntmps117
  go_wp2_with (go_at_call 103; refine HS.out.mono ?_; rintro e w' ⟨rfl, rfl⟩)
  go_ret
  exact ⟨rfl, rfl⟩

theorem fence_end {wr : World} (h : FenceRel w a D D.marked.length wr) : ∃ D', Res w a D (wr.setCell ⟨a, 6, none⟩ (.slice D.mka 0 D.mkc)) D' ∧ D'.abs = D.abs.fence := by
  obtain ⟨D', hres, habs, h1, h2, h3⟩ := h
  have := unmark_res hres.rep
  rw [h2, h3] at this
  refine ⟨_, hres.trans this, ?_⟩
  rw [List.take_length] at habs
  unfold Abs.fence
  rw [show D.abs.marked = D.marked from rfl, ← habs]
  rfl

set_option maxHeartbeats 1600000 in
set_option maxRecDepth 100000 in
theorem fence_yes (h : Rep w a D) (ok : D.abs.Ok) (hd : D.abs.down = false) (hs : D.steps + 1 < 100000000000) :
    Calls Tryz.prog 117 #[.pointer (some ⟨a, 0, none⟩)] w fun r w' => r = .returned (.bool true) ∧ ∃ D', Res w a D w' D' ∧ D'.abs = D.abs.fence := by
  have HS := Lib.hid (step_yes h hd (by omega) ok.fuse)
  have hml : D.marked.length ≤ 4194304 := ok.marked_le
  have HF := Lib.hid (fun wr n k (x : FenceRel w a D n wr) => fence_step (k := k) ok hs x)
  have HE := Lib.hid (fun wr (x : FenceRel w a D D.marked.length wr) => fence_end x)
  have H6 := Lib.hid (fun wr n (x : FenceRel w a D n wr) => fence_c6 x)
  have HC := Lib.hid (fun wr n k g (x : FenceRel w a D n wr) => fence_cell (k := k) (g := g) x)
  rcases h.mrk.2 with ⟨e, h0⟩ | ⟨g, cap, cur, e, _, _, hcap, _⟩
  · simp only [Dev.mkv] at e
    injection e with e1 e2 e3
    rw [e1, e2, e3] at H6
    rw [e1, e3] at HE
    have HM := Lib.hid e2
    have H := Lib.hid h
    clear h hd ok e1 e2 h0
    go_enter Tryz.func117, Tryz.ntmps117
    go_wp2_with (go_at_call 103; refine HS.out.mono ?_; rintro e w1 ⟨rfl, hr1, ho1, hz1⟩
                 have hrel : FenceRel w a D 0 w1 := ⟨D.stepped, step_res hr1 ho1, rfl, rfl, rfl, rfl⟩
                 have k6 := (H6.out _ _ hrel).1
                 have f6 := (H6.out _ _ hrel).2
                 have HR1 := Lib.hid hrel
                 clear hr1 ho1 hz1 hrel)
    go_loopw [15] (fun i wr => i = .int .i64 0 ∧ wr = w1) (fun _ _ => 0)
    case atStart => exact ⟨rfl, rfl⟩
    case round =>
      obtain ⟨rfl, rfl⟩ := hrel
      go_wp2
      go_ret
      exact ⟨rfl, HE.out _ (by rw [HM.out]; exact HR1.out)⟩
  · simp only [Dev.mkv] at e
    injection e with e1 e2 e3
    rw [e1, e3] at HE H6
    have HG := Lib.hid e1
    have H := Lib.hid h
    clear h hd ok e1 e2
    obtain ⟨M, hM⟩ : ∃ M, M = D.marked := ⟨_, rfl⟩
    rw [← hM] at HF HE H6 HC hml hcap
    have HM := Lib.hid hM
    clear hM
    go_enter Tryz.func117, Tryz.ntmps117
    go_wp2_with (go_at_call 103; refine HS.out.mono ?_; rintro e w1 ⟨rfl, hr1, ho1, hz1⟩
                 have hrel : FenceRel w a D 0 w1 := ⟨D.stepped, step_res hr1 ho1, rfl, rfl, rfl, rfl⟩
                 have k6 := (H6.out _ _ hrel).1
                 have HR1 := Lib.hid hrel
                 clear hr1 ho1 hz1 hrel)
    go_loopw [15] (fun i wr => ∃ n : Nat, n ≤ M.length ∧ i = .int .i64 (n : Int) ∧ FenceRel w a D n wr) (fun i _ => M.length - (intOf i).toNat)
    case atStart => exact ⟨0, Nat.zero_le _, rfl, HR1.out⟩
    case round =>
      obtain ⟨n, hn, rfl, hrel⟩ := hrel
      have j6 := (H6.out _ _ hrel).1
      have f6 := (H6.out _ _ hrel).2
      by_cases hlt : n < M.length
      · have hce := HC.out _ _ M[n] g hrel hlt rfl HG.out
        have HX := Lib.hid (HF.out _ _ M[n] hrel hlt rfl)
        clear hrel
        go_wp2_with (go_at_call 141; refine HX.out.mono ?_; rintro e w2 ⟨rfl, hr2⟩; have HR2 := Lib.hid hr2; clear hr2)
        go_roundw
        case rel => exact ⟨n + 1, by omega, by go_num, HR2.out⟩
        case measure => simp [intOf]; omega
      · have hnn : n = M.length := by omega
        rw [hnn] at hrel
        have HREL := Lib.hid hrel
        clear hrel hnn
        go_wp2
        go_ret
        exact ⟨rfl, HE.out _ HREL.out⟩
end
end Pm
end Go.Proofs.YtleehhpodgbomaaGreatDoor
/- The device's May and Lasting. -/
namespace Go.Proofs.YtleehhpodgbomaaGreatDoor
open Go.RowKit Go.MapKept
namespace Pm

def Abs.may (A : Abs) (k : Nat) : List Int :=
  match pget A.pend k with
  | some (vs, _) => vs
  | none => [A.words[k]?.getD 0]
def Abs.lasting (A : Abs) (k : Nat) : Int := (A.may k).headD 0

/-- a slice of the call's own, with these words -/
def Got (w w' : World) (l : List Int) (r : Ending) : Prop :=
  ∃ v, r = .returned v ∧ w'.ownsRow w.heap.size 71 1 v l.length (u64s l) ∧ Off (fun _ => False) w w'

theorem block_of_add (a : Addr) (n : Nat) : (a.add n).block = a.block := by unfold Addr.add; split <;> rfl
theorem oneCell_u64s (l : List Int) : ∀ u ∈ u64s l, u.oneCell' = true := by
  intro u hu
  obtain ⟨x, _, rfl⟩ := List.mem_map.1 hu
  rfl
theorem row_base {w : World} {b b' : Nat} {e : TypeId} {size n : Nat} {v : Value} {xs : List Value} (h : w.ownsRow b e size v n xs) (hb : b' ≤ b) : w.ownsRow b' e size v n xs := by
  refine ⟨h.1, ?_⟩
  rcases h.2 with h2 | ⟨g, cap, cur, e, hg, r⟩
  · exact .inl h2
  · exact .inr ⟨g, cap, cur, e, Nat.le_trans hb hg, r⟩

section
variable {w : World} {a : Nat} {D : Dev}

set_option maxHeartbeats 800000 in
set_option maxRecDepth 100000 in
theorem clone_any (ad : Addr) (c : Nat) (l : List Int) (hb : ad.block < w.heap.size) (hl : l.length < 1000000000000) (hc : ∀ j u, (u64s l)[j]? = some u → w.cell? (ad.add j) = some u) :
    Calls Tryz.prog 38 #[.slice (some ad) l.length c] w fun r w' => Got w w' l r := by
  obtain ⟨i0, hi0, hz0, hz1, hz2⟩ := info_parts u64_info
  have hq : ∀ W : World, (binOp .eql 22 (.slice (some ad) l.length c) (.slice none 0 0)).run Tryz.prog W = .ok (.bool false) W := fun W => Lib.run_eql_slice_nil W _ _ _ _ _ _ _ Tryz.underlying22
  have hown : (w.alloc (.cells #[] 71)).ownsRow w.heap.size 71 1 (.slice (some ⟨w.heap.size, 0, none⟩) 0 0) 0 [] :=
    ⟨by simp, .inr ⟨w.heap.size, 0, #[], rfl, Nat.le_refl _, (heap_alloc w _).1, Nat.le_refl _, by unfold maxLen; omega, rfl, rfl⟩⟩
  have HO := Lib.hid hown
  have hc2 : ∀ j u, (u64s l)[j]? = some u → (w.alloc (.cells #[] 71)).cell? (ad.add j) = some u := fun j u hu => by
    rw [World.cell?_of_block (w := w) (Below.heap_alloc _ _ _ (by rw [block_of_add]; exact hb))]
    exact hc j u hu
  have HC := Lib.hid hc2
  clear hc hc2 hown
  go_enter Tryz.func38, Tryz.ntmps38
  go_wp2_with (at_builtin; refine wpList_append_own_at _ rfl (.tmp 5) (.tmp 6) 22 rfl w.heap.size 71 i0 (.int .u64 0) 1 8 Tryz.underlying22 hi0 hz0 hz1 hz2 rfl (by decide) (.slice (some ⟨w.heap.size, 0, none⟩) 0 0) 0 [] rfl HO.out ad l.length c (u64s l) rfl (by simp [u64s]) HC.out (oneCell_u64s l) (by unfold maxLen; omega) (by omega) (by simp) ?_
               intro v' w2 hown2 hgr hnil hloc
               have HO2 := Lib.hid hown2
               have HG := Lib.hid hgr
               clear hown2 hgr hnil hloc)
  go_ret
  refine ⟨v', rfl, by simpa using HO2.out, ((Off.refl _ _).alloc _).grown HG.out (fun k hk hlt => ?_)⟩
  simp [Value.ownBlock] at hk
  omega

theorem Got.rep {r : Ending} {w' : World} {l : List Int} (h : Rep w a D) (g : Got w w' l r) : Rep w' a D := by
  obtain ⟨v, _, _, ho⟩ := g
  exact h.keep (fun k hk => ho.block k (h.foot_lt hk) id)

theorem may_none (h : Rep w a D) (i : Int) (hi : D.hasB i = false) : Calls Tryz.prog 116 #[.pointer (some ⟨a, 0, none⟩), .int .i64 i] w fun r w' => r = .returned (.slice none 0 0) ∧ w = w' := by
  have hc := has_any h i
  rw [hi] at hc
  have H := Lib.hid hc
  clear hc hi h
  go_enter Tryz.func116, Tryz.ntmps116
  go_wp2_with (go_at_call 97; refine H.out.mono ?_; rintro e w' ⟨rfl, rfl⟩)
  go_ret
  exact ⟨rfl, rfl⟩

set_option maxHeartbeats 800000 in
set_option maxRecDepth 100000 in
theorem may_any (h : Rep w a D) (ok : D.abs.Ok) (k : Nat) (hk : k < D.words.length) : Calls Tryz.prog 116 #[.pointer (some ⟨a, 0, none⟩), .int .i64 (k : Int)] w fun r w' => Got w w' (D.abs.may k) r := by
  have hc := has_any h (k : Int)
  rw [has_yes (by omega) (by omega)] at hc
  have H1 := Lib.hid hc
  have c4 := h.c4
  have c5 := h.c5
  have cw := h.word k hk
  have hlt := h.lt
  have hwl : D.wb < w.heap.size := lt_of_some h.wds
  unfold Abs.may
  cases hg : pget D.abs.pend k with
  | none =>
    have hn : k ∉ D.ents.map Ent.key := by rw [← keys_abs]; exact pget_none.1 hg
    have hl := run_look_none h.map hn true
    simp only [if_true] at hl
    have hgot : Got w (((w.alloc (.cells #[.slice none 0 0, .int .i64 0] 164)).alloc (.cells #[.int .u64 D.words[k]] 71))) [D.abs.words[k]?.getD 0] (.returned (.slice (some ⟨w.heap.size + 1, 0, none⟩) 1 1)) := by
      refine ⟨_, rfl, ⟨by simp [u64s], .inr ⟨w.heap.size + 1, 1, #[.int .u64 D.words[k]], rfl, by omega, ?_, Nat.le_refl _, by unfold maxLen; omega, rfl, ?_⟩⟩, ((Off.refl _ _).alloc _).alloc _⟩
      · have := (heap_alloc (w.alloc (.cells #[.slice none 0 0, .int .i64 0] 164)) (.cells #[.int .u64 D.words[k]] 71)).1
        rw [World.size_alloc] at this
        exact this
      · simp [u64s, Dev.abs, List.getElem?_eq_getElem hk]
    have HG := Lib.hid hgot
    clear hc h ok hg hn hgot
    go_enter Tryz.func116, Tryz.ntmps116
    go_wp2_with (go_at_call 97; refine H1.out.mono ?_; rintro e w' ⟨rfl, rfl⟩)
    go_ret
    exact HG.out
  | some v =>
    obtain ⟨pre, post, e, he, rfl, hv, hm, hn⟩ := ents_of_get hg
    have hent := ok.ent _ (pget_mem hg)
    have hfew := ok.few
    have hcnt := ok.cnt
    simp only [← hv, ← hm] at hent
    have hb : e.vals.length < 1000000000000 := by omega
    obtain ⟨v1, v2⟩ := v
    simp only at hv hm
    subst hv hm
    have hm0 := h.map
    rw [he] at hm0
    have hl := run_look_some hm0 (h.mid_key he).1 true
    simp only [if_true, Ent.val] at hl
    obtain ⟨cs, hcs, r1, r2, r3⟩ := h.ent e (by rw [he]; simp)
    have hel := lt_of_some hcs
    have hcl := clone_any (w := w.alloc (.cells #[.slice (some ⟨e.blk, e.off, none⟩) e.vals.length e.cap, .int .i64 (e.mark : Int)] 164)) ⟨e.blk, e.off, none⟩ e.cap e.vals (by simp; omega) hb (fun j u hj => by
      rw [Addr.add_lit, blk_cell (blk_alloc hcs _), ← hj, ← r3]
      have hjl : j < e.vals.length := by
        have := (List.getElem?_eq_some_iff.1 hj).1
        simpa [u64s] using this
      rw [List.getElem?_take, if_pos hjl, List.getElem?_drop, Array.getElem?_toList])
    have HC := Lib.hid hcl
    clear hc h ok hg hn hm0 hcl hcs r1 r2 r3 he hent
    go_enter Tryz.func116, Tryz.ntmps116
    go_wp2_with (first
      | (go_at_call 97; refine H1.out.mono ?_; rintro e w' ⟨rfl, rfl⟩)
      | (go_at_call 38; refine HC.out.mono ?_; rintro r w2 ⟨v, rfl, hown, hoff⟩; have HO := Lib.hid hown; have HF := Lib.hid hoff; clear hown hoff))
    go_ret
    refine ⟨v, rfl, ?_, ?_⟩
    · have := HO.out
      rw [World.size_alloc] at this
      exact row_base this (by omega)
    · exact ((Off.refl (fun _ => False) w).alloc _).trans HF.out (fun _ _ h => h)
end
end Pm
end Go.Proofs.YtleehhpodgbomaaGreatDoor
/- A device that the call itself made, through any of its calls: each call's answer and what it leaves, of whatever numbers. -/
namespace Go.Proofs.YtleehhpodgbomaaGreatDoor
open Go.RowKit Go.MapKept
namespace Pm

/-- the device at block a is A, all its blocks lie from B on, and below B the world is as w0 was -/
def Ses (B : Nat) (w0 w : World) (a : Nat) (A : Abs) : Prop :=
  ∃ D, Rep w a D ∧ D.abs = A ∧ A.Ok ∧ Below B w0 w ∧ (∀ k, Foot a D k → B ≤ k) ∧ B ≤ w.heap.size

def Abs.fresh (n : Nat) : Abs := ⟨0, 0, false, 0, List.replicate n 0, [], []⟩
def Abs.has (A : Abs) (i : Int) : Bool := decide (0 ≤ i) && decide (i < (A.words.length : Int))
def Abs.canStore (A : Abs) (i : Int) : Bool := A.has i && !A.down
def Abs.storeAt (A : Abs) (i x : Int) : Abs := if A.canStore i then A.store i.toNat x else A
def Abs.canFlush (A : Abs) (i : Int) : Bool := decide (0 ≤ i) && decide (i < ((A.words.length + 7) / 8 : Nat)) && !A.down
def Abs.flushAt (A : Abs) (i : Int) : Abs := if A.canFlush i then A.flush i.toNat else A
def Abs.fenceAt (A : Abs) : Abs := if A.down then A else A.fence

theorem fresh_ok (n : Nat) (hn : n ≤ 4194304) : (Abs.fresh n).Ok := by
  refine ⟨by simp [Abs.fresh], by simp [Abs.fresh], by simp [Abs.fresh], by simp [Abs.fresh], by simp [Abs.fresh], ?_, Nat.le_refl _, by simp [Abs.fresh], by simp [Abs.fresh]⟩
  simpa [Abs.fresh] using hn

section
variable {B a : Nat} {w0 w w' : World} {A : Abs}

theorem Ses.ok (h : Ses B w0 w a A) : A.Ok := by
  obtain ⟨D, _, _, h, _⟩ := h; exact h
theorem Ses.below (h : Ses B w0 w a A) : Below B w0 w := by
  obtain ⟨D, _, _, _, h, _⟩ := h; exact h
theorem Ses.size (h : Ses B w0 w a A) : B ≤ w.heap.size := by
  obtain ⟨D, _, _, _, _, _, h⟩ := h; exact h

/-- one call's step -/
theorem ses_step {D D' : Dev} {A' : Abs} (hb : Below B w0 w) (hf : ∀ k, Foot a D k → B ≤ k) (hs : B ≤ w.heap.size) (hr : Res w a D w' D') (ha : D'.abs = A') (hok : A'.Ok) : Ses B w0 w' a A' := by
  refine ⟨D', hr.rep, ha, hok, hb.trans (hr.off.below hs hf), fun k hk => ?_, Nat.le_trans hs hr.off.size⟩
  rcases hr.foot k hk with h | h
  · exact hf k h
  · omega

theorem ses_new (n : Int) (m : Nat) (hm : (m : Int) = min (max n 0) 4194304) (w : World) : Calls Tryz.prog 115 #[.int .i64 n] w fun r w' =>
    r = .returned (.pointer (some ⟨w.heap.size + 2, 0, none⟩)) ∧ Ses w.heap.size w w' (w.heap.size + 2) (Abs.fresh m) := by
  refine (new_any w n m hm).mono fun r w' ⟨hr, hrep, hb, hz⟩ => ⟨hr, Dev.fresh m w.heap.size, hrep, rfl, fresh_ok m (by omega), hb, ?_, hb.size⟩
  rintro k (rfl | rfl | rfl | hk | hk)
  · omega
  · exact Nat.le_refl _
  · show w.heap.size ≤ w.heap.size + 1; omega
  · simp [Dev.fresh] at hk
  · simp [Dev.fresh, Dev.mkv, Value.ownBlock] at hk

theorem ses_len (h : Ses B w0 w a A) : Calls Tryz.prog 94 #[.pointer (some ⟨a, 0, none⟩)] w fun r w' => r = .returned (.int .i64 (A.words.length : Int)) ∧ w = w' := by
  obtain ⟨D, hrep, rfl, _⟩ := h
  exact len_any hrep

theorem ses_load (h : Ses B w0 w a A) (i : Int) : Calls Tryz.prog 57 #[.pointer (some ⟨a, 0, none⟩), .int .i64 i] w fun r w' => r = .returned (.int .u64 (if A.has i then A.words[i.toNat]?.getD 0 else 0)) ∧ w = w' := by
  obtain ⟨D, hrep, rfl, _⟩ := h
  cases hi : D.abs.has i with
  | false => exact load_no hrep i hi
  | true =>
    simp only [Abs.has, Bool.and_eq_true, decide_eq_true_eq] at hi
    obtain ⟨k, rfl⟩ := Int.eq_ofNat_of_zero_le hi.1
    have hk : k < D.words.length := by have := hi.2; simp only [Dev.abs] at this; omega
    have := load_yes hrep k hk
    simpa [Dev.abs, List.getElem?_eq_getElem hk] using this

theorem ses_store (h : Ses B w0 w a A) (i x : Int) (hs : A.steps + 1 < 100000000000) : Calls Tryz.prog 68 #[.pointer (some ⟨a, 0, none⟩), .int .i64 i, .int .u64 x] w fun r w' =>
    r = .returned (.bool (A.canStore i)) ∧ Ses B w0 w' a (A.storeAt i x) := by
  have hses := h
  obtain ⟨D, hrep, rfl, hok, hb, hf, hz⟩ := h
  unfold Abs.storeAt
  cases hi : D.abs.has i with
  | false =>
    have hc : D.abs.canStore i = false := by simp [Abs.canStore, hi]
    simp only [hc]
    refine (store_none hrep i x hi).mono fun r w' ⟨hr, hw⟩ => ⟨hr, ?_⟩
    subst hw; exact hses
  | true =>
    cases hd : D.abs.down with
    | true =>
      have hc : D.abs.canStore i = false := by simp [Abs.canStore, hd]
      simp only [hc]
      refine (store_down hrep i x hd).mono fun r w' ⟨hr, hw⟩ => ⟨hr, ?_⟩
      subst hw; exact hses
    | false =>
      have hc : D.abs.canStore i = true := by simp [Abs.canStore, hi, hd]
      simp only [hc, if_true]
      simp only [Abs.has, Bool.and_eq_true, decide_eq_true_eq] at hi
      obtain ⟨k, rfl⟩ := Int.eq_ofNat_of_zero_le hi.1
      rw [Int.toNat_natCast]
      refine (store_any hrep hok hd k x (by omega)).mono fun r w' ⟨hr, D', hres, ha⟩ => ⟨hr, ses_step hb hf hz hres ha (store_ok hok (by omega) x hs)⟩

theorem ses_flush (h : Ses B w0 w a A) (i : Int) (hs : A.steps + 1 < 100000000000) : Calls Tryz.prog 70 #[.pointer (some ⟨a, 0, none⟩), .int .i64 i] w fun r w' =>
    r = .returned (.bool (A.canFlush i)) ∧ Ses B w0 w' a (A.flushAt i) := by
  have hses := h
  obtain ⟨D, hrep, rfl, hok, hb, hf, hz⟩ := h
  have hsz : D.words.length ≤ 4194304 := hok.size
  unfold Abs.flushAt
  rcases Int.lt_or_le i 0 with hi | hi
  · have hc : D.abs.canFlush i = false := by simp [Abs.canFlush]; omega
    simp only [hc]
    refine (flush_neg i hi).mono fun r w' ⟨hr, hw⟩ => ⟨hr, ?_⟩
    subst hw; exact hses
  · obtain ⟨k, rfl⟩ := Int.eq_ofNat_of_zero_le hi
    rcases Nat.lt_or_ge k ((D.words.length + 7) / 8) with hk | hk
    · cases hd : D.abs.down with
      | true =>
        have hc : D.abs.canFlush (k : Int) = false := by simp [Abs.canFlush, hd]
        simp only [hc]
        refine (flush_down hrep k hk hsz hd).mono fun r w' ⟨hr, hw⟩ => ⟨hr, ?_⟩
        subst hw; exact hses
      | false =>
        have hc : D.abs.canFlush (k : Int) = true := by
          simp only [Abs.canFlush, hd, Bool.not_false, Bool.and_true, Bool.and_eq_true, decide_eq_true_eq]
          exact ⟨hi, by show (k : Int) < ((D.words.length + 7) / 8 : Nat); omega⟩
        simp only [hc, if_true]
        rw [Int.toNat_natCast]
        exact (flush_yes hrep hok hd k (by omega) hs).mono fun r w' ⟨hr, D', hres, ha⟩ => ⟨hr, ses_step hb hf hz hres ha (flush_ok hok k hs)⟩
    · have hc : D.abs.canFlush (k : Int) = false := by
        simp only [Abs.canFlush, Bool.and_eq_false_iff, decide_eq_false_iff_not]
        exact .inl (.inr (by show ¬ (k : Int) < ((D.words.length + 7) / 8 : Nat); omega))
      simp only [hc]
      refine (flush_far hrep k hk hsz).mono fun r w' ⟨hr, hw⟩ => ⟨hr, ?_⟩
      subst hw; exact hses

theorem ses_fence (h : Ses B w0 w a A) (hs : A.steps + 1 < 100000000000) : Calls Tryz.prog 117 #[.pointer (some ⟨a, 0, none⟩)] w fun r w' =>
    r = .returned (.bool (!A.down)) ∧ Ses B w0 w' a A.fenceAt := by
  have hses := h
  obtain ⟨D, hrep, rfl, hok, hb, hf, hz⟩ := h
  unfold Abs.fenceAt
  cases hd : D.abs.down with
  | true =>
    refine (fence_down hrep hd).mono fun r w' ⟨hr, hw⟩ => ⟨hr, ?_⟩
    subst hw; exact hses
  | false =>
    exact (fence_yes hrep hok hd hs).mono fun r w' ⟨hr, D', hres, ha⟩ => ⟨hr, ses_step hb hf hz hres ha (fence_ok hok hs)⟩

/-- a slice of words that the call made: its value, and its cells -/
def Words (B : Nat) (w : World) (v : Value) (l : List Int) : Prop := w.ownsRow B 71 1 v l.length (u64s l)

theorem ses_may (h : Ses B w0 w a A) (i : Int) : Calls Tryz.prog 116 #[.pointer (some ⟨a, 0, none⟩), .int .i64 i] w fun r w' =>
    ∃ v, r = .returned v ∧ Words w.heap.size w' v (if A.has i then A.may i.toNat else []) ∧ Ses B w0 w' a A ∧ Off (fun _ => False) w w' := by
  have hses := h
  obtain ⟨D, hrep, rfl, hok, hb, hf, hz⟩ := h
  cases hi : D.abs.has i with
  | false =>
    refine (may_none hrep i hi).mono fun r w' ⟨hr, hw⟩ => ⟨_, hr, ?_, ?_, ?_⟩
    · exact ⟨by simp [u64s], .inl ⟨rfl, rfl⟩⟩
    · subst hw; exact hses
    · subst hw; exact Off.refl _ _
  | true =>
    simp only [Abs.has, Bool.and_eq_true, decide_eq_true_eq] at hi
    obtain ⟨k, rfl⟩ := Int.eq_ofNat_of_zero_le hi.1
    have hk : k < D.words.length := by have := hi.2; simp only [Dev.abs] at this; omega
    refine (may_any hrep hok k hk).mono fun r w' hg => ?_
    have hrep2 := hg.rep hrep
    obtain ⟨v, hr, hw, ho⟩ := hg
    refine ⟨v, hr, by simpa [Words] using hw, ⟨D, hrep2, rfl, hok, hb.trans (ho.below hz (fun _ h => h.elim)), hf, Nat.le_trans hz ho.size⟩, ho⟩
end
end Pm
end Go.Proofs.YtleehhpodgbomaaGreatDoor
/- The chapter's example, as the laws of layer 1 ask it. -/
namespace Go.Proofs.YtleehhpodgbomaaGreatDoor
open Go.RowKit Go.MapKept
namespace Pm

def LA0 : Abs := Abs.fresh 8
def LA1 : Abs := LA0.storeAt 0 5
def LA2 : Abs := LA1.storeAt 0 6
def LA3 : Abs := LA2.flushAt 0
def LA4 : Abs := LA3.fenceAt
theorem la_s0 : LA0.canStore 0 = true := by decide
theorem la_s1 : LA1.canStore 0 = true := by decide
theorem la_m2 : (if LA2.has 0 then LA2.may (0 : Int).toNat else []) = [0, 5, 6] := by decide
theorem la_l2 : (if LA2.has 0 then LA2.words[(0 : Int).toNat]?.getD 0 else 0) = 6 := by decide
theorem la_f2 : LA2.canFlush 0 = true := by decide
theorem la_d3 : (!LA3.down) = true := by decide
theorem la_m4 : (if LA4.has 0 then LA4.may (0 : Int).toNat else []) = [6] := by decide

theorem words_cell {B : Nat} {w : World} {g c n i : Nat} {l : List Int} (h : Words B w (.slice (some ⟨g, 0, none⟩) n c) l) (hi : i < l.length) : w.cell? ⟨g, i, none⟩ = some (.int .u64 l[i]) := by
  rcases h.2 with ⟨e, _⟩ | ⟨g', cap, cur, e, _, hb, _, _, hsz, ht⟩
  · cases e
  · injection e with e
    injection e with e
    injection e with e
    subst e
    rw [blk_cell hb]
    have := congrArg (·[i]?) ht
    simp only [Nat.mul_one, u64s] at this
    rw [List.getElem?_take, if_pos hi, List.getElem?_map, List.getElem?_eq_getElem hi] at this
    rw [← Array.getElem?_toList]
    exact this

set_option maxHeartbeats 1600000 in
set_option maxRecDepth 100000 in
theorem lives_any (w : World) : Calls Tryz.prog 83 #[] w fun r w' => r = .returned (.bool true) ∧ Below w.heap.size w w' := by
  have hn := ses_new 8 8 (by decide) w
  have HN := Lib.hid hn
  clear hn
  go_enter Tryz.func83, Tryz.ntmps83
  go_wp2_with fail
  refine HN.out.mono ?_
  rintro r w1 ⟨rfl, h1⟩
  have H1 := Lib.hid (show Ses w.heap.size w w1 (w.heap.size + 2) LA0 from h1)
  clear h1
  go_wp2_with fail
  have hc := ses_store H1.out 0 5 (by decide)
  rw [la_s0] at hc
  refine hc.mono ?_
  clear hc
  rintro r w2 ⟨rfl, h2⟩
  have H2 := Lib.hid (show Ses w.heap.size w w2 (w.heap.size + 2) LA1 from h2)
  clear h2
  go_wp2_with fail
  have hc := ses_store H2.out 0 6 (by decide)
  rw [la_s1] at hc
  refine hc.mono ?_
  clear hc
  rintro r w3 ⟨rfl, h3⟩
  have H3 := Lib.hid (show Ses w.heap.size w w3 (w.heap.size + 2) LA2 from h3)
  clear h3
  go_wp2_with fail
  have hc := ses_may H3.out 0
  rw [la_m2] at hc
  refine hc.mono ?_
  clear hc
  rintro r w4 ⟨v4, rfl, hw4, h4, _⟩
  obtain ⟨g4, c4, rfl⟩ := row_form hw4 (by decide)
  have H4 := Lib.hid h4
  clear h4 hw4
  go_wp2_with fail
  have hc := ses_load H4.out 0
  rw [la_l2] at hc
  refine hc.mono ?_
  clear hc
  rintro r w5 ⟨rfl, rfl⟩
  go_wp2_with fail
  have hc := ses_flush H4.out 0 (by decide)
  rw [la_f2] at hc
  refine hc.mono ?_
  clear hc
  rintro r w6 ⟨rfl, h6⟩
  have H6 := Lib.hid (show Ses w.heap.size w w6 (w.heap.size + 2) LA3 from h6)
  clear h6
  go_wp2_with fail
  have hc := ses_fence H6.out (by decide)
  rw [la_d3] at hc
  refine hc.mono ?_
  clear hc
  rintro r w7 ⟨rfl, h7⟩
  have H7 := Lib.hid (show Ses w.heap.size w w7 (w.heap.size + 2) LA4 from h7)
  clear h7
  go_wp2_with fail
  have hc := ses_may H7.out 0
  rw [la_m4] at hc
  refine hc.mono ?_
  clear hc
  rintro r w8 ⟨v8, rfl, hw8, h8, _⟩
  obtain ⟨g8, c8, rfl⟩ := row_form hw8 (by decide)
  have H8 := Lib.hid h8
  clear h8 hw8
  go_wp2_with fail
  have hc := ses_may H8.out 0
  rw [la_m4] at hc
  refine hc.mono ?_
  clear hc
  rintro r w9 ⟨v9, rfl, hw9, h9, _⟩
  obtain ⟨g9, c9, rfl⟩ := row_form hw9 (by decide)
  have k9 := words_cell (i := 0) hw9 (by decide)
  simp only [List.getElem_cons_zero] at k9
  have H9 := Lib.hid h9
  clear h9 hw9
  go_wp2
  go_ret
  exact ⟨rfl, H9.out.below⟩
end Pm
end Go.Proofs.YtleehhpodgbomaaGreatDoor
/- The chapter's example; SuperEncodes and SuperDecodes, walked. -/
namespace Go.Proofs.YtleehhpodgbomaaGreatDoor
open Go.RowKit Go.MapKept
namespace Sup

theorem nums_ex : nums 10 3 64 = 274878103562 := by decide
theorem may_ex : Geo.may ((10 : Nat) : Int) ((3 : Nat) : Int) ((64 : Nat) : Int) = true := by decide

theorem row_keep {w w' : World} {g : Nat} {l : List Nat} (h : w.rowIs g 71 8 (rowOf l)) (hb : Below w.heap.size w w') : w'.rowIs g 71 8 (rowOf l) := h.of_block (hb.block _ h.lt)

set_option maxHeartbeats 1000000 in
theorem lives_any (w : World) : Calls Tryz.prog 47 #[] w fun r w' => r = .returned (.bool true) ∧ Below w.heap.size w w' := by
  have he : Calls Tryz.prog 82 #[.agg #[.int .i64 10, .int .i64 3, .int .i64 64]] w fun r w' => ∃ g : Nat, w.heap.size ≤ g ∧ r = .returned (.tuple #[.slice (some ⟨g, 0, none⟩) 8 8, .int .i64 0]) ∧ w'.rowIs g 71 8 (rowOf (sb 10 3 64)) ∧ Below w.heap.size w w' := encode_yes w 10 3 64 may_ex
  have HE := Lib.hid he
  have H1 := Lib.hid Pm.lives_any
  have H2 := Lib.hid Crc.lives_any
  have H3 := Lib.hid Pack.lives_any
  have H4 := Lib.hid Geo.lives_any
  clear he
  go_enter Tryz.func47, Tryz.ntmps47
  go_wp2_with fail
  refine HE.out.mono ?_
  rintro e w0 ⟨g, _, rfl, hrow, hb⟩
  have HR0 := Lib.hid hrow
  have HB0 := Lib.hid hb
  clear hrow hb HE
  go_wp2_with fail
  refine (H1.out _).mono ?_
  rintro e w1 ⟨rfl, hb⟩
  have HR1 := Lib.hid (row_keep HR0.out hb)
  have HB1 := Lib.hid (HB0.out.trans (hb.mono HB0.out.size))
  clear hb HR0 HB0
  go_wp2_with fail
  refine (H2.out _).mono ?_
  rintro e w2 ⟨rfl, hb⟩
  have HR2 := Lib.hid (row_keep HR1.out hb)
  have HB2 := Lib.hid (HB1.out.trans (hb.mono HB1.out.size))
  clear hb HR1 HB1
  go_wp2_with fail
  refine (H3.out _).mono ?_
  rintro e w3 ⟨rfl, hb⟩
  have HR3 := Lib.hid (row_keep HR2.out hb)
  have HB3 := Lib.hid (HB2.out.trans (hb.mono HB2.out.size))
  clear hb HR2 HB2
  go_wp2_with fail
  refine (H4.out _).mono ?_
  rintro e w4 ⟨rfl, hb⟩
  have HR4 := Lib.hid (row_keep HR3.out hb)
  have HB4 := Lib.hid (HB3.out.trans (hb.mono HB3.out.size))
  clear hb HR3 HB3
  have hc1 : w4.cell? ⟨g, 1, none⟩ = some (.int .u64 274878103562) := by
    rw [HR4.out.cell (i := 1) (by omega)]
    show some (Value.int .u64 ((nums 10 3 64 : Nat) : Int)) = _
    rw [nums_ex]
    rfl
  go_wp2
  go_ret
  exact ⟨rfl, HB4.out⟩

end Sup
end Go.Proofs.YtleehhpodgbomaaGreatDoor
/- Words one of whose bits is turned, and that the sums tell it. -/
namespace Go.Proofs.YtleehhpodgbomaaGreatDoor
open Go.RowKit Go.MapKept
namespace Crc

theorem le_word {x : Nat} (h : x < 18446744073709551616) (r : List Nat) : le (wb x ++ r) = x + 18446744073709551616 * le r := by
  have e : wb x = [x % 256, x / 256 % 256, x / 65536 % 256, x / 16777216 % 256, x / 4294967296 % 256, x / 1099511627776 % 256, x / 281474976710656 % 256, x / 72057594037927936 % 256] := by
    simp [wb, List.range_succ]
  rw [e]
  simp only [List.cons_append, List.nil_append, le]
  omega

theorem word_xor {x : Nat} (h : x < 18446744073709551616) (y : Nat) : x + 18446744073709551616 * y = x ^^^ y * 2 ^ 64 := by
  apply Nat.eq_of_testBit_eq
  intro i
  have e : (x + 18446744073709551616 * y).testBit i = if i < 64 then x.testBit i else y.testBit (i - 64) := by
    rw [Nat.add_comm]
    exact Nat.testBit_two_pow_mul_add y (i := 64) h i
  rw [e, Nat.testBit_xor, Nat.testBit_mul_two_pow]
  by_cases h1 : i < 64
  · simp [h1, Nat.not_le.2 h1]
  · have h2 : x.testBit i = false := Nat.testBit_lt_two_pow (Nat.lt_of_lt_of_le h (Nat.pow_le_pow_right (n := 2) (by omega) (by omega : 64 ≤ i)))
    simp [h1, h2, Nat.not_lt.1 h1]

theorem turned_lt {x t : Nat} (h : x < 18446744073709551616) (ht : t < 64) : x ^^^ 2 ^ t < 18446744073709551616 := Nat.xor_lt_two_pow (n := 64) h (Nat.pow_lt_pow_right (by omega) ht)

/-- one bit of a word turned -/
theorem le_turned (l : List Nat) : ∀ j t, (∀ x ∈ l, x < 18446744073709551616) → j < l.length → t < 64 → le (wflat (l.set j (l[j]?.getD 0 ^^^ 2 ^ t))) = le (wflat l) ^^^ 2 ^ (64 * j + t) := by
  induction l with
  | nil => intro j t _ h; simp at h
  | cons x l ih =>
    intro j t h hj ht
    have hx := h x (List.mem_cons_self ..)
    have e : ∀ (y : Nat) (r : List Nat), wflat (y :: r) = wb y ++ wflat r := fun y r => by simp [wflat]
    cases j with
    | zero =>
      rw [List.set_cons_zero, List.getElem?_cons_zero, Option.getD_some, e, e, le_word hx, le_word (turned_lt hx ht), word_xor hx, word_xor (turned_lt hx ht), Nat.mul_zero, Nat.zero_add, Nat.xor_assoc, Nat.xor_assoc, Nat.xor_comm (2 ^ t)]
    | succ j =>
      rw [List.length_cons] at hj
      have e2 := ih j t (fun y hy => h y (List.mem_cons_of_mem _ hy)) (by omega) ht
      rw [List.set_cons_succ, List.getElem?_cons_succ, e, e, le_word hx, le_word hx, e2, word_xor hx, word_xor hx, Nat.xor_assoc]
      congr 1
      have e3 : 2 ^ (64 * (j + 1) + t) = 2 ^ (64 * j + t) * 2 ^ 64 := by rw [← Nat.pow_add]; congr 1; omega
      rw [e3]
      apply Nat.eq_of_testBit_eq
      intro i
      simp only [Nat.testBit_mul_two_pow, Nat.testBit_xor]
      by_cases h8 : 64 ≤ i <;> simp [h8]

theorem line_turned {l : List Nat} (h : ∀ x ∈ l, x < 18446744073709551616) {j t : Nat} (hj : j < l.length) (ht : t < 64) : Trn (wflat l) (64 * j + t) 1 1 (wflat (l.set j (l[j]?.getD 0 ^^^ 2 ^ t))) :=
  ⟨wflat_byt _, by rw [wflat_len, wflat_len, List.length_set], by decide, by rw [le_turned l j t h hj ht, Nat.one_mul], fun h => by cases h⟩

/-- a word's bit that is turned is told -/
theorem line_told32 {l : List Nat} (h : ∀ x ∈ l, x < 18446744073709551616) {j t : Nat} (hj : j < l.length) (ht : t < 64) : S32 (wflat (l.set j (l[j]?.getD 0 ^^^ 2 ^ t))) ≠ S32 (wflat l) :=
  (line_turned h hj ht).told32 (wflat_byt _) (by decide) (by rw [wflat_len]; omega) (by decide)
end Crc
end Go.Proofs.YtleehhpodgbomaaGreatDoor
/- A superblock one of whose bits is turned is none; SuperTurned, walked. -/
namespace Go.Proofs.YtleehhpodgbomaaGreatDoor
open Go.RowKit Go.MapKept
namespace Sup

/-- one bit turned -/
def trn (l : List Nat) (j t : Nat) : List Nat := l.set j (l[j]?.getD 0 ^^^ 2 ^ t)

theorem xor_ne (x t : Nat) : x ^^^ 2 ^ t ≠ x := by
  intro h
  have h1 : (x ^^^ 2 ^ t).testBit t = x.testBit t := by rw [h]
  rw [Nat.testBit_xor, Nat.testBit_two_pow_self] at h1
  cases x.testBit t <;> simp at h1

theorem front_u64 {n m s : Nat} (hn : n < 65536) (hm : m < 65536) (hs : s < 65536) : ∀ x ∈ front n m s, x < 18446744073709551616 := by
  intro x hx
  have h1 := nums_lt hn hm hs
  have h3 := magic_lt
  simp only [front, List.mem_cons, List.not_mem_nil, or_false] at hx
  rcases hx with rfl | rfl | rfl | rfl | rfl | rfl | rfl <;> omega

theorem trn_none {n m s : Nat} (h : Geo.may n m s = true) {j t : Nat} (hj : j < 8) (ht : t < 64) : dec (trn (sb n m s) j t) = none := by
  obtain ⟨h1, h2, h3⟩ := may_lt h
  refine dec_none (fun n' m' s' h' e => ?_)
  have hg : ∀ k, k < 8 → (trn (sb n m s) j t)[k]?.getD 0 = (sb n' m' s')[k]?.getD 0 := fun k _ => by rw [e]
  have hs : ∀ k, k ≠ j → (trn (sb n m s) j t)[k]?.getD 0 = (sb n m s)[k]?.getD 0 := fun k hk => by
    unfold trn
    rw [List.getElem?_set_ne (fun h => hk h.symm)]
  have hj' : (trn (sb n m s) j t)[j]?.getD 0 = (sb n m s)[j]?.getD 0 ^^^ 2 ^ t := by
    unfold trn
    rw [List.getElem?_set_self (by rw [sb_len]; exact hj)]
    rfl
  have hx := hg j hj
  rw [hj'] at hx
  have : j = 1 ∨ j = 7 ∨ (j = 0 ∨ j = 2 ∨ j = 3 ∨ j = 4 ∨ j = 5 ∨ j = 6) := by omega
  rcases this with rfl | rfl | hr
  · have h7 := hg 7 (by omega)
    rw [hs 7 (by omega)] at h7
    have hx1 : nums n m s ^^^ 2 ^ t = nums n' m' s' := hx
    have h71 : sum n m s = sum n' m' s' := h7
    refine Crc.line_told32 (front_u64 h1 h2 h3) (j := 1) (t := t) (by rw [front_len]; omega) ht ?_
    have e2 : (front n m s).set 1 ((front n m s)[1]?.getD 0 ^^^ 2 ^ t) = front n' m' s' := by
      show [magic, nums n m s ^^^ 2 ^ t, 0, 0, 0, 0, 0] = _
      rw [hx1]
      rfl
    rw [e2]
    exact h71.symm
  · have h1' := hg 1 (by omega)
    rw [hs 1 (by omega)] at h1'
    have hx1 : sum n m s ^^^ 2 ^ t = sum n' m' s' := hx
    have h11 : nums n m s = nums n' m' s' := h1'
    have e2 : sum n m s = sum n' m' s' := by
      unfold sum front
      rw [h11]
    exact xor_ne _ _ (hx1.trans e2.symm)
  · refine xor_ne ((sb n m s)[j]?.getD 0) t (hx.trans ?_)
    rcases hr with rfl | rfl | rfl | rfl | rfl | rfl <;> rfl

theorem trn_u64 {n m s : Nat} (hn : n < 65536) (hm : m < 65536) (hs : s < 65536) (j : Nat) {t : Nat} (ht : t < 64) : ∀ x ∈ trn (sb n m s) j t, x < 18446744073709551616 := by
  intro x hx
  rcases List.mem_or_eq_of_mem_set hx with h | rfl
  · exact sb_u64 hn hm hs x h
  · refine Crc.turned_lt ?_ ht
    rcases Nat.lt_or_ge j 8 with h | h
    · rw [List.getElem?_eq_getElem (by rw [sb_len]; exact h)]
      exact sb_u64 hn hm hs _ (List.getElem_mem _)
    · rw [List.getElem?_eq_none (by rw [sb_len]; exact h)]
      decide

theorem row_trn {w : World} {g j t : Nat} {l : List Nat} (hl : l.length = 8) (hj : j < 8) (h : w.rowIs g 71 8 (rowOf l)) : (w.setCell ⟨g, j, none⟩ (.int .u64 ((l[j]?.getD 0 ^^^ 2 ^ t : Nat) : Int))).rowIs g 71 8 (rowOf (trn l j t)) :=
  (h.set j (.int .u64 ((l[j]?.getD 0 ^^^ 2 ^ t : Nat) : Int))).congr (fun i hi => by
    unfold rowOf trn
    by_cases e : i = j
    · subst e
      rw [if_pos rfl, List.getElem?_set_self (by omega)]
      rfl
    · rw [if_neg e, List.getElem?_set_ne (fun h => e h.symm)])

theorem mid_may (n m k : Nat) : Geo.may ((1 + n % 3000 : Nat) : Int) ((1 + m % 3000 : Nat) : Int) ((64 * 2 ^ (k % 3) : Nat) : Int) = true := by
  have hn : n % 3000 < 3000 := Nat.mod_lt _ (by omega)
  have hm : m % 3000 < 3000 := Nat.mod_lt _ (by omega)
  generalize n % 3000 = a at *
  generalize m % 3000 = b at *
  have : k % 3 = 0 ∨ k % 3 = 1 ∨ k % 3 = 2 := by omega
  refine Geo.may_yes ⟨⟨by omega, by omega, ?_⟩, ?_⟩
  · unfold Geo.Sz
    rcases this with h | h | h <;> rw [h] <;> decide
  · unfold Geo.fin Geo.bkAt Geo.bmAt Geo.lines
    rcases this with h | h | h <;> rw [h] <;> omega

theorem wrap_pow {t : Nat} (ht : t < 64) : IntKind.wrap .u64 (2 ^ t : Int) = (2 ^ t : Int) := by
  have h2 : 2 ^ t < 18446744073709551616 := Nat.pow_lt_pow_right (n := 64) (by omega) ht
  have h1 : (2 : Int) ^ t = ((2 ^ t : Nat) : Int) := by simp
  rw [h1]
  clear h1
  generalize 2 ^ t = y at *
  rw [IntKind.wrap_u64]
  omega

end Sup
end Go.Proofs.YtleehhpodgbomaaGreatDoor
/- Read, walked: of a device that the call made. -/
namespace Go.Proofs.YtleehhpodgbomaaGreatDoor
open Go.RowKit Go.MapKept
namespace Sup

theorem ses_keep {B a : Nat} {w0 w w' : World} {A : Pm.Abs} (h : Pm.Ses B w0 w a A) (hb : Below w.heap.size w w') : Pm.Ses B w0 w' a A := by
  obtain ⟨D, hrep, e, ok, hbel, hf, hz⟩ := h
  exact ⟨D, hrep.keep (fun k hk => hb.block k (hrep.foot_lt hk)), e, ok, hbel.trans (hb.mono hz), hf, Nat.le_trans hz hb.size⟩

/-- a device's first words -/
def rd (A : Pm.Abs) : List Nat := (List.range 8).map fun i => (A.words[i]?.getD 0).toNat
theorem rd_len (A : Pm.Abs) : (rd A).length = 8 := by simp [rd]
theorem rd_get (A : Pm.Abs) {k : Nat} (hk : k < 8) : (rd A)[k]?.getD 0 = (A.words[k]?.getD 0).toNat := by
  unfold rd
  rw [List.getElem?_map, List.getElem?_range hk]
  rfl

/-- whose a device is -/
def ron (l : List Nat) (L : Nat) : Option (Nat × Nat × Nat) :=
  match dec l with
  | some (n, m, s) => if Geo.fin n m s = (L : Int) then some (n, m, s) else none
  | none => none

/-- all are words -/
def U64 (l : List Int) : Prop := ∀ x ∈ l, 0 ≤ x ∧ x < 18446744073709551616
theorem U64.get {l : List Int} (h : U64 l) (k : Nat) : 0 ≤ l[k]?.getD 0 ∧ l[k]?.getD 0 < 18446744073709551616 := by
  rcases Nat.lt_or_ge k l.length with h1 | h1
  · rw [List.getElem?_eq_getElem h1]
    exact h _ (List.getElem_mem h1)
  · rw [List.getElem?_eq_none h1]
    simp

theorem rd_u64 {A : Pm.Abs} (h : U64 A.words) : ∀ x ∈ rd A, x < 18446744073709551616 := by
  intro x hx
  obtain ⟨k, _, rfl⟩ := List.mem_map.1 hx
  have := h.get k
  omega

theorem load_any {B a : Nat} {w0 w : World} {A : Pm.Abs} (h : Pm.Ses B w0 w a A) (hu : U64 A.words) (k : Nat) (hk : k < 8) : Calls Tryz.prog 57 #[.pointer (some ⟨a, 0, none⟩), .int .i64 (k : Int)] w fun r w' => r = .returned (.int .u64 (((rd A)[k]?.getD 0 : Nat) : Int)) ∧ w = w' := by
  refine (Pm.ses_load h (k : Int)).mono ?_
  rintro r w' ⟨rfl, rfl⟩
  refine ⟨?_, rfl⟩
  have e : (((rd A)[k]?.getD 0 : Nat) : Int) = A.words[k]?.getD 0 := by
    rw [rd_get A hk]
    have := hu.get k
    omega
  rw [e]
  cases hh : A.has (k : Int) with
  | true => simp
  | false =>
    have : A.words.length ≤ k := by
      unfold Pm.Abs.has at hh
      simp at hh
      omega
    rw [List.getElem?_eq_none this]
    simp

/-- the words up to m, noughts behind them -/
def upt (l : List Nat) (m i : Nat) : Value := .int .u64 ((if i < m then l[i]?.getD 0 else 0 : Nat) : Int)
theorem upt_step {l : List Nat} {m : Nat} (j : Nat) : (if j = m then Value.int .u64 ((l[m]?.getD 0 : Nat) : Int) else upt l m j) = upt l (m + 1) j := by
  unfold upt
  by_cases h : j = m
  · subst h
    rw [if_pos rfl, if_pos (by omega)]
  · rw [if_neg h]
    by_cases h2 : j < m
    · rw [if_pos h2, if_pos (by omega)]
    · rw [if_neg h2, if_neg (by omega)]

theorem row_read {w : World} {g : Nat} {t : TypeId} {A : Pm.Abs} (h : w.rowIs g t 8 (upt (rd A) 8)) (hu : U64 A.words) : Pack.Wds w (some ⟨g, 0, none⟩) (rd A) :=
  ⟨rd_u64 hu, by rw [rd_len]; omega, fun j hj => ⟨g, 0, rfl, h.lt, by
    have h8 : j < 8 := by rwa [rd_len] at hj
    rw [Nat.zero_add, h.cell h8]
    unfold upt
    rw [if_pos h8, List.getElem?_eq_getElem hj]
    rfl⟩⟩

theorem zeros_row (w : World) (t : TypeId) (l : List Nat) : (w.alloc (.cells #[.int .u64 0, .int .u64 0, .int .u64 0, .int .u64 0, .int .u64 0, .int .u64 0, .int .u64 0, .int .u64 0] t)).rowIs w.heap.size t 8 (upt l 0) :=
  World.rowIs_alloc w #[.int .u64 0, .int .u64 0, .int .u64 0, .int .u64 0, .int .u64 0, .int .u64 0, .int .u64 0, .int .u64 0] t (upt l 0) (fun i hi => by
    have : i < 8 := hi
    have : i = 0 ∨ i = 1 ∨ i = 2 ∨ i = 3 ∨ i = 4 ∨ i = 5 ∨ i = 6 ∨ i = 7 := by omega
    rcases this with rfl | rfl | rfl | rfl | rfl | rfl | rfl | rfl <;> rfl)

theorem fin_len {n m s : Nat} (h : Geo.may n m s = true) : 48 ≤ Geo.fin n m s := by
  obtain ⟨⟨h1, h2, h3⟩, _⟩ := Geo.may_num h
  have h4 := Geo.bm_bounds h1 h2
  have h5 := Geo.bk_bounds h1 h2
  have h6 := Geo.fin_bounds h1 h2 h3
  have h7 := h3.bounds
  have h8 : 1 * 8 ≤ (n : Int) * ((s : Int) / 8) := Int.mul_le_mul (by omega) (by omega) (by omega) (by omega)
  unfold Geo.fin
  omega

theorem words_yes (w : World) {n m s : Nat} (h : Geo.may n m s = true) : Calls Tryz.prog 93 #[.agg #[.int .i64 (n : Int), .int .i64 (m : Int), .int .i64 (s : Int)]] w fun r w' => r = .returned (.int .i64 (Geo.fin n m s)) ∧ Below w.heap.size w w' := by
  have := Geo.words_any w n m s
  rw [Geo.iff_yes h] at this
  exact this

theorem frozen_set_other {w : World} {p q : Addr} (h : p.block ≠ q.block) (v : Value) : (w.setCell q v).frozen? p = w.frozen? p := World.frozen?_of_block (w := w) (Below.heap_setCell w q v p.block h)
theorem own_set_other {w : World} {b g i : Nat} {n m s : Int} (h : Own w b n m s) (hg : b ≠ g) (v : Value) : Own (w.setCell ⟨g, i, none⟩ v) b n m s :=
  ⟨⟨by simpa using h.box.lt, (cell_set_other hg _).trans h.box.c0, (cell_set_other hg _).trans h.box.c1, (cell_set_other hg _).trans h.box.c2⟩, fun o => (frozen_set_other hg _).trans (h.f o)⟩

/-- the words that were read up to k, in block g; the answer's own block b; what was there ahead is as it was -/
structure Rs (w : World) (b g k : Nat) (l : List Nat) (wr : World) : Prop where
  row : wr.rowIs g 155 8 (upt l k)
  own : Own wr b 0 0 0
  bg : b ≠ g
  below : Below w.heap.size w wr
  le : w.heap.size ≤ g

theorem Rs.set {w wr : World} {b g k : Nat} {l : List Nat} (h : Rs w b g k l wr) : Rs w b g (k + 1) l (wr.setCell ⟨g, k, none⟩ (.int .u64 ((l[k]?.getD 0 : Nat) : Int))) :=
  ⟨(h.row.set k _).congr (fun j _ => upt_step j), own_set_other h.own h.bg _, h.bg, h.below.setCell h.le _, h.le⟩

section
variable {w : World}
set_option maxHeartbeats 2000000 in
set_option maxRecDepth 100000 in
theorem read_any {B a : Nat} {w0 : World} {A : Pm.Abs} (h : Pm.Ses B w0 w a A) (hu : U64 A.words) :
    Calls Tryz.prog 55 #[.pointer (some ⟨a, 0, none⟩)] w fun r w' => r = .returned (.tuple #[gv (ron (rd A) A.words.length), .int .i64 (ev (ron (rd A) A.words.length))]) ∧ Below w.heap.size w w' := by
  have H := Lib.hid h
  have HU := Lib.hid hu
  clear h hu
  have HB := Lib.hid ((Below.refl w.heap.size w).alloc (Nat.le_refl _) (.cells #[.int .i64 0, .int .i64 0, .int .i64 0] 80))
  have HX := Lib.hid (owned w 0 0 0 80)
  have HZ := Lib.hid (World.size_alloc w (.cells #[.int .i64 0, .int .i64 0, .int .i64 0] 80))
  go_enter Tryz.func55, Tryz.ntmps55
  go_wp2
  generalize w.alloc (.cells #[.int .i64 0, .int .i64 0, .int .i64 0] 80) = W at *
  have hrow := zeros_row W 155 (rd A)
  rw [HZ.out] at hrow
  have hba := (Below.refl W.heap.size W).alloc (Nat.le_refl _) (.cells #[.int .u64 0, .int .u64 0, .int .u64 0, .int .u64 0, .int .u64 0, .int .u64 0, .int .u64 0, .int .u64 0] 155)
  have HR := Lib.hid (show Rs w w.heap.size (w.heap.size + 1) 0 (rd A) _ from ⟨hrow, HX.out.keep hba, by omega, HB.out.trans (hba.mono HB.out.size), by omega⟩)
  clear hrow hba HX HB HZ
  generalize W.alloc (.cells #[.int .u64 0, .int .u64 0, .int .u64 0, .int .u64 0, .int .u64 0, .int .u64 0, .int .u64 0, .int .u64 0] 155) = W1 at *
  clear W
  go_loopw [8] (fun i wr => ∃ (k : Nat), k ≤ 8 ∧ i = .int .i64 (k : Int) ∧ Rs w w.heap.size (w.heap.size + 1) k (rd A) wr) (fun i _ => 8 - (intOf i).toNat)
  case atStart => exact ⟨0, Nat.zero_le _, rfl, HR.out⟩
  case round =>
    obtain ⟨k, hk, rfl, hrs⟩ := hrel
    have HS := Lib.hid hrs
    clear hrs HR
    by_cases hlt : k < 8
    · have HC := Lib.hid (load_any (ses_keep H.out HS.out.below) HU.out k hlt)
      have hi0 : (0 : Int) ≤ (k : Int) := by omega
      have hi1 : (k : Int) < 8 := by omega
      have hrc := HS.out.row.cell hlt
      have hrf := HS.out.row.frozen k
      have HS2 := Lib.hid HS.out.set
      generalize (rd A)[k]?.getD 0 = x at *
      go_wp2_with fail
      refine HC.out.mono ?_
      rintro e w' ⟨rfl, rfl⟩
      go_wp2
      refine ⟨⟨k + 1, by omega, by go_num, HS2.out⟩, by simp [intOf]; omega⟩
    · obtain rfl : k = 8 := by omega
      have hdc := decode_any (some ⟨w.heap.size + 1, 0, none⟩) 8 (rd A) (row_read HS.out.row HU.out)
      rw [rd_len] at hdc
      cases ho : dec (rd A) with
      | none =>
        rw [ho] at hdc
        simp only [gv, ev] at hdc
        have HD := Lib.hid hdc
        have HN := Lib.hid (show ron (rd A) A.words.length = none by unfold ron; rw [ho])
        clear hdc ho
        go_wp2_with fail
        refine HD.out.mono ?_
        rintro e w1 ⟨rfl, hb⟩
        have hb0 := hb.alloc hb.size (.cells #[.int .i64 0, .int .i64 0, .int .i64 0] 80)
        have HX1 := Lib.hid (HS.out.own.keep hb)
        have HB1 := Lib.hid (HS.out.below.trans (hb0.mono HS.out.below.size))
        have HB0 := Lib.hid (HS.out.below.trans (hb.mono HS.out.below.size))
        clear hb hb0 HS HD
        have hlt1 : w.heap.size < w1.heap.size := HX1.out.box.lt
        have hc0 := HX1.out.box.c0
        have hc1 := HX1.out.box.c1
        have hc2 := HX1.out.box.c2
        have hf0 := HX1.out.f 0
        have hf1 := HX1.out.f 1
        have hf2 := HX1.out.f 2
        go_wp2
        rw [HN.out]
        refine bodyPost_ret (v := .tuple #[gv none, .int .i64 (ev none)]) ?_ rfl ⟨rfl, ?_⟩
        · simp [results, Tryz.results55, go_sem, gv, ev, hc0, hc1, hc2, hlt1]
        · first
          | exact ((HB1.out.setCell (Nat.le_refl _) _).setCell (Nat.le_refl _) _).setCell (Nat.le_refl _) _
          | exact (((HB0.out.setCell (Nat.le_refl _) _).setCell (Nat.le_refl _) _).setCell (Nat.le_refl _) _).alloc (by have := HB0.out.size; simpa using this) _
      | some q =>
        obtain ⟨n, m, s⟩ := q
        have hms := dec_some ho
        rw [ho] at hdc
        simp only [gv, ev] at hdc
        have HD := Lib.hid hdc
        have HW := Lib.hid (fun w => words_yes w hms.1)
        have HM := Lib.hid hms.1
        have HO := Lib.hid ho
        clear hdc ho hms
        go_wp2_with fail
        refine HD.out.mono ?_
        rintro e w1 ⟨rfl, hb⟩
        have hb0 := hb.alloc hb.size (.cells #[.int .i64 (n : Int), .int .i64 (m : Int), .int .i64 (s : Int)] 80)
        have HX1 := Lib.hid (HS.out.own.keep hb0)
        have HB1 := Lib.hid (HS.out.below.trans (hb0.mono HS.out.below.size))
        have HG1 := Lib.hid (Geo.boxed w1 n m s 80)
        clear hb hb0 HS HD
        go_wp2_with fail
        generalize w1.alloc (.cells #[.int .i64 (n : Int), .int .i64 (m : Int), .int .i64 (s : Int)] 80) = w2 at *
        generalize w1.heap.size = k1 at *
        refine (HW.out _).mono ?_
        rintro e w3 ⟨rfl, hb⟩
        have HX3 := Lib.hid (HX1.out.keep hb)
        have HB3 := Lib.hid (HB1.out.trans (hb.mono HB1.out.size))
        have HG3 := Lib.hid (HG1.out.keep hb)
        have HL := Lib.hid (Pm.ses_len (ses_keep H.out HB3.out))
        clear hb HX1 HB1 HG1 HW
        go_wp2_with fail
        refine HL.out.mono ?_
        rintro e w' ⟨rfl, rfl⟩
        have hc0 := HX3.out.box.c0
        have hc1 := HX3.out.box.c1
        have hc2 := HX3.out.box.c2
        have hf0 := HX3.out.f 0
        have hf1 := HX3.out.f 1
        have hf2 := HX3.out.f 2
        have hg0 := HG3.out.c0
        have hg1 := HG3.out.c1
        have hg2 := HG3.out.c2
        generalize hfin : Geo.fin (n : Int) (m : Int) (s : Int) = F at *
        by_cases hFL : F = (A.words.length : Int)
        · have HN := Lib.hid (show ron (rd A) A.words.length = some (n, m, s) by unfold ron; rw [HO.out]; simp only; rw [hfin, if_pos hFL])
          rw [hFL]
          clear hfin hFL
          go_wp2
          rw [HN.out]
          refine bodyPost_ret (v := .tuple #[gv (some (n, m, s)), .int .i64 (ev (some (n, m, s)))]) ?_ rfl ⟨rfl, ?_⟩
          · simp [results, Tryz.results55, go_sem, gv, ev, hc0, hc1, hc2]
          · exact ((HB3.out.setCell (Nat.le_refl _) _).setCell (Nat.le_refl _) _).setCell (Nat.le_refl _) _
        · have HN := Lib.hid (show ron (rd A) A.words.length = none by unfold ron; rw [HO.out]; simp only; rw [hfin, if_neg hFL])
          clear hfin
          go_wp2
          rw [HN.out]
          refine bodyPost_ret (v := .tuple #[gv none, .int .i64 (ev none)]) ?_ rfl ⟨rfl, ?_⟩
          · simp [results, Tryz.results55, go_sem, gv, ev, hc0, hc1, hc2]
          · exact ((HB3.out.setCell (Nat.le_refl _) _).setCell (Nat.le_refl _) _).setCell (Nat.le_refl _) _
end
end Sup
end Go.Proofs.YtleehhpodgbomaaGreatDoor
