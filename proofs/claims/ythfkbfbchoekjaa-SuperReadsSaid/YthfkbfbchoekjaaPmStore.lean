/- The device's Store. -/
import Derived.Test.YthfkbfbchoekjaaPmSettle
namespace Go.Proofs.Ythfkbfbchoekjaa
open Go.RowKit Go.MapKept
namespace Pm
section
variable {w : World} {a : Nat} {D : Dev}

theorem store_none (h : Rep w a D) (i : Int) (x : Int) (hi : D.hasB i = false) : Calls Try.prog 15 #[.pointer (some ⟨a, 0, none⟩), .int .i64 i, .int .u64 x] w fun e w' => e = .returned (.bool false) ∧ w = w' := by
  have hc := has_any h i
  rw [hi] at hc
  have H := Lib.hid hc
  clear hc hi h
  go_enter Try.func15, Try.ntmps15
  go_wp2_with (go_at_call 32; refine H.out.mono ?_; rintro e w' ⟨rfl, rfl⟩)
  go_ret
  exact ⟨rfl, rfl⟩

theorem store_down (h : Rep w a D) (i : Int) (x : Int) (hd : D.down = true) : Calls Try.prog 15 #[.pointer (some ⟨a, 0, none⟩), .int .i64 i, .int .u64 x] w fun e w' => e = .returned (.bool false) ∧ w = w' := by
  cases hi : D.hasB i
  · exact store_none h i x hi
  · have hc := has_any h i
    have hs := step_no h hd
    rw [hi] at hc
    have H := Lib.hid hc
    have HS := Lib.hid hs
    clear hc hi h hs hd
    go_enter Try.func15, Try.ntmps15
    go_wp2_with (first
      | (go_at_call 32; refine H.out.mono ?_; rintro e w' ⟨rfl, rfl⟩)
      | (go_at_call 33; refine HS.out.mono ?_; rintro e w' ⟨rfl, rfl⟩))
    go_ret
    exact ⟨rfl, rfl⟩

theorem step_res {w1 : World} (h : Rep w1 a D.stepped) (ho : Off (fun k => k = a) w w1) : Res w a D w1 D.stepped := ⟨h, ho.mono (fun _ _ h => .inl h), fun _ h => .inl h⟩

/-- the counts behind a store -/
def Dev.stored (D : Dev) : Dev := { D.stepped with stores := D.stores + 1 }
theorem stored_rep {w1 : World} (h : Rep w1 a D.stepped) : Res w1 a D.stepped (w1.setCell ⟨a, 1, none⟩ (.int .i64 ((D.stores : Int) + 1))) D.stored := by
  refine ⟨h.turn (D' := D.stored) ?_ (fun k hk hne => Below.heap_setCell _ _ _ _ hne) rfl rfl rfl rfl rfl rfl rfl, (Off.refl _ _).setCell (fun _ => .inl rfl) _, fun k hk => .inl hk⟩
  rw [blk_set h.dev 1 _]
  simp [Dev.cells, Dev.stored, Dev.stepped]

/-- an entry turned, in its own block or in a new one -/
theorem put_res {w2 : World} (h : Rep w a D) {pre post : List Ent} {e e' : Ent} (he : D.ents = pre ++ e :: post) (e1 : e'.key = e.key) (e6 : e'.born = e.born) (hoff : Off (fun k => k = e.blk) w w2) (hl : e'.lies w2) (hb : e'.blk = e.blk ∨ w.heap.size ≤ e'.blk) :
    Res w a D (putMap w2 D.mb (pre ++ e' :: post) D.clock) { D with ents := pre ++ e' :: post } := by
  rcases hb with hb | hb
  · exact mid_res h he e1 e6 hb hoff hl
  have hnd := h.nodup
  rw [he, List.map_append, List.map_cons] at hnd
  have hmid := nodup_mid (List.nodup_cons.1 hnd).2
  have hmem : ∀ x, x ∈ pre ∨ x ∈ post → x ∈ D.ents := by intro x hx; rw [he]; simp only [List.mem_append, List.mem_cons]; rcases hx with hx | hx <;> simp [hx]
  have hoth : ∀ x, x ∈ pre ∨ x ∈ post → x.blk ≠ e.blk := by
    rintro x (hx | hx) hxe
    · exact hmid.1 (by rw [← hxe]; exact List.mem_map_of_mem hx)
    · exact hmid.2 (by rw [← hxe]; exact List.mem_map_of_mem hx)
  have hlt : ∀ x, x ∈ pre ∨ x ∈ post → x.blk < w.heap.size := fun x hx => h.foot_lt (.inr (.inr (.inr (.inl (List.mem_map_of_mem (hmem x hx))))))
  have hwl := lt_of_some h.wds
  refine ents_res h (pre ++ e' :: post) D.clock (hoff.mono (fun k _ hk => ?_)) ?_ ?_ ?_ (stamp_mid h.stamp he e6) ?_
  · subst hk; rw [he]; simp
  · intro x hx
    simp only [List.mem_append, List.mem_cons] at hx
    have hxx : x = e' ∨ (x ∈ pre ∨ x ∈ post) := by rcases hx with hx | hx | hx <;> simp [hx]
    rcases hxx with rfl | hx
    · exact hl
    · exact lies_keep (h.ent x (hmem x hx)) (hoff.block _ (hlt x hx) (hoth x hx))
  · rw [List.map_append, List.map_cons]
    have h1 := List.nodup_cons.1 hnd
    have h2 := List.nodup_append.1 h1.2
    have h3 := List.nodup_cons.1 h2.2.1
    have n1 : e'.blk ∉ pre.map Ent.blk := fun hx => by
      obtain ⟨x, hx, hxe⟩ := List.mem_map.1 hx
      have := hlt x (.inl hx); omega
    have n2 : e'.blk ∉ post.map Ent.blk := fun hx => by
      obtain ⟨x, hx, hxe⟩ := List.mem_map.1 hx
      have := hlt x (.inr hx); omega
    refine List.nodup_cons.2 ⟨?_, List.nodup_append.2 ⟨h2.1, List.nodup_cons.2 ⟨n2, h3.2⟩, ?_⟩⟩
    · intro hx
      simp only [List.mem_append, List.mem_cons] at hx
      rcases hx with hx | hx | hx
      · exact h1.1 (by simp only [List.mem_append]; exact .inl hx)
      · omega
      · exact h1.1 (by simp only [List.mem_append, List.mem_cons]; exact .inr (.inr hx))
    · intro x hx y hy hxy
      subst hxy
      rcases List.mem_cons.1 hy with rfl | hy
      · exact n1 hx
      · exact h2.2.2 _ hx _ (List.mem_cons_of_mem _ hy) rfl
  · rw [keys_mid he e1]; exact h.keys
  · intro x hx
    simp only [List.mem_append, List.mem_cons] at hx
    have hxx : x = e' ∨ (x ∈ pre ∨ x ∈ post) := by rcases hx with hx | hx | hx <;> simp [hx]
    rcases hxx with rfl | hx
    · exact .inr hb
    · exact .inl (List.mem_map_of_mem (hmem x hx))

/-- a word turned -/
theorem word_res (h : Rep w a D) (i : Nat) (x : Int) : Res w a D (w.setCell ⟨D.wb, i, none⟩ (.int .u64 x)) { D with words := D.words.set i x } := by
  have hnb : ∀ e ∈ D.ents, e.blk ≠ D.wb := fun e he hx => (List.nodup_cons.1 h.nodup).1 (by rw [← hx]; exact List.mem_map_of_mem he)
  refine ⟨⟨?_, ?_, ?_, ?_, ?_, h.nodup, h.keys, h.stamp⟩, (Off.refl _ _).setCell (fun _ => .inr (.inl rfl)) _, fun k hk => .inl hk⟩
  · rw [Below.heap_setCell _ _ _ _ h.ne_wb, h.dev]
    simp [Dev.cells]
  · rw [blk_set h.wds i _]
    simp [u64s, List.map_set]
  · exact (Below.heap_setCell _ _ _ _ h.wb_mb.symm).trans h.map
  · exact fun e he => lies_keep (h.ent e he) (Below.heap_setCell _ _ _ _ (hnb e he))
  · refine row_keep h.mrk (fun g hg => Below.heap_setCell _ _ _ _ (fun e => h.u64_mkv h.wds (hg.trans (congrArg some e))))

/-- append to an entry's values, with room or without -/
theorem wpList_append_ent {P : Program} (W : World) {ops : Array Oper} {rest : List Oper} {o : Oper} {act : Act} {Q : Exit → Act → World → Prop}
    (hg : o.guard = none) (s y : Operand) (t : TypeId) (hop : o.op = Op.call { callee := Callee.builtin Builtin.append, args := #[s, y], argTypes := #[t, t] })
    (i : TypeInfo) (h1 : P.underlying t = some (.slice 39)) (h2 : P.info? 39 = some i) (h3 : i.zero = some (.int .u64 0)) (h4 : i.size = 1) (h5 : i.bytes = 8)
    (e : Ent) (hl : e.lies W) (hs : act.eval s = .slice (some ⟨e.blk, e.off, none⟩) e.vals.length e.cap) (x : Int) (ad : Addr) (c : Nat) (hx : act.eval y = .slice (some ad) 1 c) (hc : ∀ j u, [Value.int .u64 x][j]? = some u → W.cell? (ad.add j) = some u)
    (hv : e.vals.length < 1000000000000)
    (hK : ∀ blk off cap w', Ent.lies w' { e with vals := e.vals ++ [x], blk := blk, off := off, cap := cap } → Off (fun k => k = e.blk) W w' → (blk = e.blk ∨ W.heap.size ≤ blk) →
      wpList P ops Q rest (act.put o.dst (.slice (some ⟨blk, off, none⟩) (e.vals.length + 1) cap)) w') :
    wpList P ops Q (o :: rest) act W := by
  obtain ⟨cs, hcs, r1, r2, r3⟩ := hl
  have hcell : ∀ j u, (u64s e.vals)[j]? = some u → W.cell? ⟨e.blk, e.off + j, none⟩ = some u := by
    intro j u hj
    rw [blk_cell hcs, ← hj, ← r3]
    have hjl : j < e.vals.length := by
      have := (List.getElem?_eq_some_iff.1 hj).1
      simpa [u64s] using this
    rw [List.getElem?_take, if_pos hjl, List.getElem?_drop, Array.getElem?_toList]
  refine wpList_append_arg W hg s y t hop 39 i (.int .u64 0) 1 8 h1 h2 h3 h4 h5 rfl (by decide) e.blk e.off e.vals.length e.cap (u64s e.vals) hs (by simp [u64s]) hcell ad 1 c [.int .u64 x] hx rfl hc (by simp [Value.oneCell']) ?_ (by unfold maxLen; omega) (by omega) ?_ ?_
  · intro hr j hj
    have hj0 : j = 0 := by simpa using hj
    subst hj0
    refine ⟨?_, blk_frozen hcs _⟩
    rw [blk_cell hcs, Array.getElem?_eq_getElem (by omega)]
    rfl
  · intro hr
    refine hK e.blk e.off e.cap _ ⟨cs.setIfInBounds (e.off + e.vals.length) (.int .u64 x), ?_, ?_, ?_, ?_⟩ ?_ (.inl rfl)
    · simp only [World.setCells, Nat.mul_one]
      exact blk_set hcs _ _
    · simpa using r1
    · simpa using hr
    · show (((cs.setIfInBounds (e.off + e.vals.length) (.int .u64 x)).toList).drop e.off).take (e.vals ++ [x]).length = u64s (e.vals ++ [x])
      rw [Array.toList_setIfInBounds, List.drop_set, if_neg (by omega), show e.off + e.vals.length - e.off = e.vals.length by omega, List.length_append, List.length_singleton]
      have hlen : e.vals.length < (cs.toList.drop e.off).length := by simp; omega
      rw [List.take_set, List.take_add_one, r3, List.getElem?_eq_getElem hlen]
      simp [u64s]
    · simp only [World.setCells, Nat.mul_one]
      exact (Off.refl (fun k => k = e.blk) W).setCell (fun _ => rfl) _
  · intro hr v' w' hown hgr
    rcases hown.2 with ⟨_, h0⟩ | ⟨g, cap, cur, rfl, hb, hgb, q1, q2, q3, q4⟩
    · omega
    · refine hK g 0 cap w' ⟨cur, hgb, by simpa using q3.symm, by simpa using q1, ?_⟩ ?_ (.inr hb)
      · simpa [u64s] using q4
      · exact (Off.refl _ _).grown hgr (fun k hk => by cases hk)

/-- what holds behind the append, and what the map's store then does -/
theorem store_facts {w2 w5 : World} {pre post : List Ent} {e : Ent} {x : Int} {blk off cap : Nat} (h : Rep w2 a D) (he : D.ents = pre ++ e :: post) (hk : e.key < D.words.length)
    (hl : Ent.lies w5 { e with vals := e.vals ++ [x], blk := blk, off := off, cap := cap })
    (ho : Off (fun k => k = e.blk) ((w2.alloc (.cells #[.slice (some ⟨e.blk, e.off, none⟩) e.vals.length e.cap, .int .i64 (e.mark : Int)] 72)).alloc (.cells #[.int .u64 x] 39)) w5)
    (hb : blk = e.blk ∨ w2.heap.size + 2 ≤ blk) :
    w5.cell? ⟨a, 4, none⟩ = some (.slice (some ⟨D.wb, 0, none⟩) D.words.length D.words.length) ∧ w5.cell? ⟨a, 5, none⟩ = some (.map (some D.mb)) ∧
    w5.cell? ⟨w2.heap.size, 0, none⟩ = some (.slice (some ⟨e.blk, e.off, none⟩) e.vals.length e.cap) ∧ w5.cell? ⟨w2.heap.size, 1, none⟩ = some (.int .i64 (e.mark : Int)) ∧ w5.frozen? ⟨w2.heap.size, 0, none⟩ = false ∧
    ∃ w7, (Instr.mapUpdate 67 (.map (some D.mb)) (.int .i64 (e.key : Int)) (.agg #[.slice (some ⟨blk, off, none⟩) (e.vals.length + 1) cap, .int .i64 (e.mark : Int)])).run Try.prog (w5.setCell ⟨w2.heap.size, 0, none⟩ (.slice (some ⟨blk, off, none⟩) (e.vals.length + 1) cap)).drew = .ok () w7 ∧
      Res w2 a D w7 { D with ents := pre ++ { e with vals := e.vals ++ [x], blk := blk, off := off, cap := cap } :: post } ∧
      w7.cell? ⟨a, 4, none⟩ = some (.slice (some ⟨D.wb, 0, none⟩) D.words.length D.words.length) ∧ w7.cell? ⟨D.wb, e.key, none⟩ = some (.int .u64 D.words[e.key]) ∧ w7.frozen? ⟨D.wb, e.key, none⟩ = false := by
  have hel := h.foot_lt (k := e.blk) (.inr (.inr (.inr (.inl (by rw [he]; simp)))))
  have hae : a ≠ e.blk := h.ne_ent (by rw [he]; simp)
  have hal := h.lt
  have hml := lt_of_some h.map
  have hme : D.mb ≠ e.blk := by
    obtain ⟨cs, hcs, _⟩ := h.ent e (by rw [he]; simp)
    exact (blk_map hcs h.map).symm
  have hD : w5.heap[a]? = some (.cells D.cells 70 (0, 0)) := (ho.block a (by simp; omega) hae).trans (blk_alloc (blk_alloc h.dev _) _)
  have hN : w5.heap[w2.heap.size]? = some (.cells #[.slice (some ⟨e.blk, e.off, none⟩) e.vals.length e.cap, .int .i64 (e.mark : Int)] 72 (0, 0)) :=
    (ho.block _ (by simp; omega) (by omega)).trans (blk_alloc (heap_alloc w2 _).1 _)
  have hM : w5.heap[D.mb]? = some (.map ((pre ++ e :: post).map Ent.entry).toArray D.clock) := (ho.block _ (by simp; omega) hme).trans (blk_alloc (blk_alloc (by rw [← he]; exact h.map) _) _)
  have hM6 : (w5.setCell ⟨w2.heap.size, 0, none⟩ (.slice (some ⟨blk, off, none⟩) (e.vals.length + 1) cap)).drew.heap[D.mb]? = some (.map ((pre ++ e :: post).map Ent.entry).toArray D.clock) :=
    blk_far hM (by show D.mb ≠ w2.heap.size; omega) _
  have hput := run_put_some (e' := { e with vals := e.vals ++ [x], blk := blk, off := off, cap := cap }) hM6 (h.mid_key he).1 rfl rfl
  have hres := put_res (w2 := (w5.setCell ⟨w2.heap.size, 0, none⟩ (.slice (some ⟨blk, off, none⟩) (e.vals.length + 1) cap)).drew) h he (e' := { e with vals := e.vals ++ [x], blk := blk, off := off, cap := cap }) rfl rfl
    (Off.drew (Off.setCell (((Off.refl _ _).alloc _).alloc _ |>.trans ho (fun _ _ h => h)) (fun hx => absurd hx (Nat.lt_irrefl _)) _)) (by
      obtain ⟨cs, hcs, r⟩ := hl
      exact ⟨cs, blk_far hcs (by show blk ≠ w2.heap.size; omega) _, r⟩) (by
      rcases hb with hb | hb
      · exact .inl hb
      · exact .inr (by show w2.heap.size ≤ blk; omega))
  refine ⟨blk_cell hD 4, blk_cell hD 5, blk_cell hN 0, blk_cell hN 1, blk_frozen hN 0, _, ?_, hres, hres.rep.c4, ?_, blk_frozen hres.rep.wds _⟩
  · rw [← hput]
    simp [Ent.val]
  · have := hres.rep.word e.key
    rw [show ({ D with ents := pre ++ { e with vals := e.vals ++ [x], blk := blk, off := off, cap := cap } :: post } : Dev).words = D.words from rfl, List.getElem?_eq_getElem hk] at this
    exact this

set_option maxHeartbeats 1600000 in
set_option maxRecDepth 100000 in
theorem store_old (h : Rep w a D) (x : Int) (hd : D.down = false) (pre post : List Ent) (e : Ent) (he : D.ents = pre ++ e :: post) (hk : e.key < D.words.length) (hs : D.steps < 4611686018427387904) (hl : D.left < 4611686018427387904) (hst : D.stores < 4611686018427387904) (hv : e.vals.length < 1000000000000) :
    Calls Try.prog 15 #[.pointer (some ⟨a, 0, none⟩), .int .i64 (e.key : Int), .int .u64 x] w fun r w' => r = .returned (.bool true) ∧ ∃ blk off cap,
      Res w a D w' { D.stored with words := D.words.set e.key x, ents := pre ++ { e with vals := e.vals ++ [x], blk := blk, off := off, cap := cap } :: post } := by
  obtain ⟨i0, hi0, hz0, hz1, hz2⟩ := info_parts u64_info
  have hc := has_any h (e.key : Int)
  rw [has_yes (by omega) (by omega)] at hc
  have H1 := Lib.hid hc
  have H2 := Lib.hid (step_yes h hd hs hl)
  have H := Lib.hid h
  have HE := Lib.hid he
  clear hc h he hd hs hl
  go_enter Try.func15, Try.ntmps15
  go_wp2_with (first
    | (go_at_call 32; refine H1.out.mono ?_; rintro e w' ⟨rfl, rfl⟩)
    | (go_at_call 33; refine H2.out.mono ?_; rintro r w1 ⟨rfl, hr1, ho1, hz1s⟩
       have c1 : w1.cell? ⟨a, 1, none⟩ = some (.int .i64 (D.stores : Int)) := hr1.c1
       have c4 : w1.cell? ⟨a, 4, none⟩ = some (.slice (some ⟨D.wb, 0, none⟩) D.words.length D.words.length) := hr1.c4
       have c5 : w1.cell? ⟨a, 5, none⟩ = some (.map (some D.mb)) := hr1.c5
       have f1 := hr1.frozen 1
       have hlt := hr1.lt
       have hr2 := stored_rep hr1
       have hm2 : (w1.setCell ⟨a, 1, none⟩ (.int .i64 ((D.stores : Int) + 1))).heap[D.mb]? = some (.map ((pre ++ e :: post).map Ent.entry).toArray D.clock) := by
         rw [← HE.out]; exact hr2.rep.map
       have hlk := run_look_some hm2 (H.out.mid_key HE.out).1 true
       simp only [if_true, Ent.val] at hlk
       have hl4 : e.lies (((w1.setCell ⟨a, 1, none⟩ (.int .i64 ((D.stores : Int) + 1))).alloc (.cells #[.slice (some ⟨e.blk, e.off, none⟩) e.vals.length e.cap, .int .i64 (e.mark : Int)] 72)).alloc (.cells #[.int .u64 x] 39)) := by
         have hl := hr2.rep.ent e (by show e ∈ D.ents; rw [HE.out]; simp)
         obtain ⟨cs, hcs, r⟩ := hl
         exact ⟨cs, blk_alloc (blk_alloc hcs _) _, r⟩
       have HL4 := Lib.hid hl4
       have HR1 := Lib.hid hr1
       have HR2 := Lib.hid hr2
       have HO1 := Lib.hid ho1
       have HZ := Lib.hid hz1s
       clear hr1 hr2 ho1 hz1s hm2 hl4)
    | (at_builtin; refine wpList_append_ent _ rfl (.tmp 40) (.tmp 42) 25 rfl i0 Try.underlying25 hi0 hz0 hz1 hz2 e HL4.out rfl x ⟨w1.heap.size + 1, 0, none⟩ 1 rfl ?_ hv ?_
       · have := cell_one_new2 (w1.setCell ⟨a, 1, none⟩ (.int .i64 ((D.stores : Int) + 1))) (.cells #[.slice (some ⟨e.blk, e.off, none⟩) e.vals.length e.cap, .int .i64 (e.mark : Int)] 72) (.int .u64 x) 39
         simpa [World.setCell] using this
       intro blk off cap w5 hl5 ho5 hb5
       have hz2s : (w1.setCell ⟨a, 1, none⟩ (.int .i64 ((D.stores : Int) + 1))).heap.size = w1.heap.size := by simp [World.setCell]
       obtain ⟨k4, k5, k0, k1, e0, w7, hput, HR7, j4, jw, jf⟩ := store_facts HR2.out.rep HE.out hk hl5 ho5 (by rw [hz2s]; simpa [World.setCell] using hb5)
       rw [hz2s] at k0 k1 e0 hput
       have HX := Lib.hid HR7
       clear HR7 hl5 ho5 hb5 hz2s))
  have hDw : D.stored.words = D.words := rfl
  have hDb : D.stored.wb = D.wb := rfl
  have hDm : D.stored.mb = D.mb := rfl
  simp only [hDw, hDb, hDm] at k4 k5 hput j4 jw jf
  go_region
  go_wp2
  go_ret
  have hfin := word_res HX.out.rep e.key x
  refine ⟨rfl, blk, off, cap, ?_⟩
  exact (((step_res HR1.out HO1.out).trans HR2.out).trans HX.out).trans hfin

theorem stamp_snoc {l : List Ent} {e : Ent} {c : Nat} (h : Stamp l c) (hb : e.born = c) : Stamp (l ++ [e]) (c + 1) := by
  refine ⟨?_, ?_⟩
  · intro x hx
    rcases List.mem_append.1 hx with hx | hx
    · have := h.1 x hx; omega
    · rw [List.mem_singleton.1 hx]; omega
  · rw [List.map_append]
    refine List.nodup_append.2 ⟨h.2, by simp, ?_⟩
    intro x hx y hy hxy
    have hy : y = e.born := by simpa using hy
    obtain ⟨z, hz, rfl⟩ := List.mem_map.1 hx
    have := h.1 z hz
    omega

/-- a new entry -/
theorem fresh_res {w2 : World} (h : Rep w a D) (e : Ent) (hk : e.key ∉ D.ents.map Ent.key) (hoff : Off (fun _ => False) w w2) (hl : e.lies w2) (hb : w.heap.size ≤ e.blk) (hbn : e.born = D.clock) :
    Res w a D (putMap w2 D.mb (D.ents ++ [e]) (D.clock + 1)) { D with ents := D.ents ++ [e], clock := D.clock + 1 } := by
  have hlt : ∀ x ∈ D.ents, x.blk < w.heap.size := fun x hx => h.foot_lt (.inr (.inr (.inr (.inl (List.mem_map_of_mem hx)))))
  have hwl := lt_of_some h.wds
  have hnd := List.nodup_cons.1 h.nodup
  refine ents_res h (D.ents ++ [e]) (D.clock + 1) (hoff.mono (fun _ _ h => h.elim)) ?_ ?_ ?_ (stamp_snoc h.stamp hbn) ?_
  · intro x hx
    rcases List.mem_append.1 hx with hx | hx
    · exact lies_keep (h.ent x hx) (hoff.block _ (hlt x hx) id)
    · rw [List.mem_singleton.1 hx]; exact hl
  · rw [List.map_append]
    have n1 : e.blk ∉ D.ents.map Ent.blk := fun hx => by
      obtain ⟨x, hx, hxe⟩ := List.mem_map.1 hx
      have := hlt x hx; omega
    refine List.nodup_cons.2 ⟨?_, List.nodup_append.2 ⟨hnd.2, by simp, ?_⟩⟩
    · intro hx
      rcases List.mem_append.1 hx with hx | hx
      · exact hnd.1 hx
      · have : D.wb = e.blk := by simpa using hx
        omega
    · intro x hx y hy hxy
      have : y = e.blk := by simpa using hy
      subst hxy this
      exact n1 hx
  · rw [List.map_append]
    refine List.nodup_append.2 ⟨h.keys, by simp, ?_⟩
    intro x hx y hy hxy
    have : y = e.key := by simpa using hy
    subst hxy this
    exact hk hx
  · intro x hx
    rcases List.mem_append.1 hx with hx | hx
    · exact .inl (List.mem_map_of_mem hx)
    · rw [List.mem_singleton.1 hx]; exact .inr hb

theorem new_facts {w2 : World} {k : Nat} {v x : Int} (h : Rep w2 a D) (hk : k < D.words.length) (hn : k ∉ D.ents.map Ent.key) :
    ∃ w7, (Instr.mapUpdate 67 (.map (some D.mb)) (.int .i64 (k : Int)) (.agg #[.slice (some ⟨w2.heap.size + 1, 0, none⟩) 2 2, .int .i64 0])).run Try.prog
        ((w2.alloc (.cells #[.slice (some ⟨w2.heap.size + 1, 0, none⟩) 2 2, .int .i64 0] 72)).alloc (.cells #[.int .u64 v, .int .u64 x] 39)).drew = .ok () w7 ∧
      Res w2 a D w7 { D with ents := D.ents ++ [⟨k, [v, x], 0, w2.heap.size + 1, 0, 2, D.clock⟩], clock := D.clock + 1 } ∧
      w7.cell? ⟨a, 4, none⟩ = some (.slice (some ⟨D.wb, 0, none⟩) D.words.length D.words.length) ∧ w7.cell? ⟨D.wb, k, none⟩ = some (.int .u64 D.words[k]) ∧ w7.frozen? ⟨D.wb, k, none⟩ = false := by
  have hN : ((w2.alloc (.cells #[.slice (some ⟨w2.heap.size + 1, 0, none⟩) 2 2, .int .i64 0] 72)).alloc (.cells #[.int .u64 v, .int .u64 x] 39)).heap[w2.heap.size + 1]? = some (.cells #[.int .u64 v, .int .u64 x] 39 (0, 0)) := by
    have := (heap_alloc (w2.alloc (.cells #[.slice (some ⟨w2.heap.size + 1, 0, none⟩) 2 2, .int .i64 0] 72)) (.cells #[.int .u64 v, .int .u64 x] 39)).1
    rw [World.size_alloc] at this
    exact this
  have hM : ((w2.alloc (.cells #[.slice (some ⟨w2.heap.size + 1, 0, none⟩) 2 2, .int .i64 0] 72)).alloc (.cells #[.int .u64 v, .int .u64 x] 39)).drew.heap[D.mb]? = some (.map (D.ents.map Ent.entry).toArray D.clock) := blk_alloc (blk_alloc h.map _) _
  have hput := run_put_none (e := ⟨k, [v, x], 0, w2.heap.size + 1, 0, 2, D.clock⟩) hM hn rfl
  have hres := fresh_res (w2 := ((w2.alloc (.cells #[.slice (some ⟨w2.heap.size + 1, 0, none⟩) 2 2, .int .i64 0] 72)).alloc (.cells #[.int .u64 v, .int .u64 x] 39)).drew) h ⟨k, [v, x], 0, w2.heap.size + 1, 0, 2, D.clock⟩ hn
    (Off.drew (((Off.refl _ _).alloc _).alloc _)) ⟨_, hN, by simp, by simp, by simp [u64s]⟩ (by show w2.heap.size ≤ w2.heap.size + 1; omega) rfl
  refine ⟨_, hput, hres, hres.rep.c4, ?_, blk_frozen hres.rep.wds _⟩
  have := hres.rep.word k
  rw [show ({ D with ents := D.ents ++ [⟨k, [v, x], 0, w2.heap.size + 1, 0, 2, D.clock⟩], clock := D.clock + 1 } : Dev).words = D.words from rfl, List.getElem?_eq_getElem hk] at this
  exact this

set_option maxHeartbeats 1600000 in
set_option maxRecDepth 100000 in
theorem store_new (h : Rep w a D) (x : Int) (hd : D.down = false) (k : Nat) (hk : k < D.words.length) (hn : k ∉ D.ents.map Ent.key) (hs : D.steps < 4611686018427387904) (hl : D.left < 4611686018427387904) (hst : D.stores < 4611686018427387904) :
    Calls Try.prog 15 #[.pointer (some ⟨a, 0, none⟩), .int .i64 (k : Int), .int .u64 x] w fun r w' => r = .returned (.bool true) ∧ ∃ blk off cap born clock,
      Res w a D w' { D.stored with words := D.words.set k x, ents := D.ents ++ [⟨k, [D.words[k], x], 0, blk, off, cap, born⟩], clock := clock } := by
  obtain ⟨i0, hi0, hz0, hz1, hz2⟩ := info_parts u64_info
  have hc := has_any h (k : Int)
  rw [has_yes (by omega) (by omega)] at hc
  have H1 := Lib.hid hc
  have H2 := Lib.hid (step_yes h hd hs hl)
  have H := Lib.hid h
  have HN := Lib.hid hn
  clear hc h hd hs hl hn
  go_enter Try.func15, Try.ntmps15
  go_wp2_with (first
    | (go_at_call 32; refine H1.out.mono ?_; rintro e w' ⟨rfl, rfl⟩)
    | (go_at_call 33; refine H2.out.mono ?_; rintro r w1 ⟨rfl, hr1, ho1, hz1s⟩
       have c1 : w1.cell? ⟨a, 1, none⟩ = some (.int .i64 (D.stores : Int)) := hr1.c1
       have c4 : w1.cell? ⟨a, 4, none⟩ = some (.slice (some ⟨D.wb, 0, none⟩) D.words.length D.words.length) := hr1.c4
       have c5 : w1.cell? ⟨a, 5, none⟩ = some (.map (some D.mb)) := hr1.c5
       have cw : w1.cell? ⟨D.wb, k, none⟩ = some (.int .u64 D.words[k]) := by
         have := hr1.word k
         rw [show D.stepped.words = D.words from rfl, List.getElem?_eq_getElem hk] at this
         exact this
       have f1 := hr1.frozen 1
       have hlt := hr1.lt
       have hwlt : D.wb < w1.heap.size := lt_of_some hr1.wds
       have hwne : D.wb ≠ a := hr1.ne_wb.symm
       have hr2 := stored_rep hr1
       have hlk := run_look_none (b := D.mb) (l := D.ents) (c := D.clock) hr2.rep.map HN.out true
       simp only [if_true] at hlk
       obtain ⟨w7, hput0, HR7, j40, jw0, jf0⟩ := new_facts (v := D.words[k]) (x := x) hr2.rep hk HN.out
       rw [show (w1.setCell ⟨a, 1, none⟩ (.int .i64 ((D.stores : Int) + 1))).heap.size = w1.heap.size from by simp [World.setCell]] at hput0
       have hput : (Instr.mapUpdate 67 (.map (some D.mb)) (.int .i64 (k : Int)) (.agg #[.slice (some ⟨w1.heap.size + 1, 0, none⟩) 2 2, .int .i64 0])).run Try.prog
        (((w1.setCell ⟨a, 1, none⟩ (.int .i64 ((D.stores : Int) + 1))).alloc (.cells #[.slice (some ⟨w1.heap.size + 1, 0, none⟩) 2 2, .int .i64 0] 72)).alloc (.cells #[.int .u64 D.words[k], .int .u64 x] 39)).drew = .ok () w7 := hput0
       have j4 : w7.cell? ⟨a, 4, none⟩ = some (.slice (some ⟨D.wb, 0, none⟩) D.words.length D.words.length) := j40
       have jw : w7.cell? ⟨D.wb, k, none⟩ = some (.int .u64 D.words[k]) := jw0
       have jf : w7.frozen? ⟨D.wb, k, none⟩ = false := jf0
       have HX := Lib.hid HR7
       have HR1 := Lib.hid hr1
       have HR2 := Lib.hid hr2
       have HO1 := Lib.hid ho1
       clear hr1 hr2 ho1 hz1s HR7 hput0 j40 jw0 jf0))
  go_region
  go_wp2
  go_ret
  have hfin := word_res HX.out.rep k x
  exact ⟨rfl, _, _, _, _, _, (((step_res HR1.out HO1.out).trans HR2.out).trans HX.out).trans hfin⟩
end
end Pm
end Go.Proofs.Ythfkbfbchoekjaa
