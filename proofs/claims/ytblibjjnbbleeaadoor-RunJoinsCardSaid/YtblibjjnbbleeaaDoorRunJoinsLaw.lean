/- RunJoins, walked. -/
import Derived.Test.YtblibjjnbbleeaaDoorRunJoin
import Derived.Test.YtblibjjnbbleeaaDoorRunLives
import Derived.Deep.DeepCutAuto
import Derived.IntWalk
namespace Go.Proofs.YtblibjjnbbleeaaDoor
open Go.RowKit Go.MapKept
namespace Rn
open Bm

/-- the runs that are drawn -/
def rl (ss cs : List Nat) : List Run := (List.range ss.length).map fun k => (ss.getD k 0 % 20, 1 + cs.getD (k % cs.length) 0 % 20)
theorem rl_len (ss cs : List Nat) : (rl ss cs).length = ss.length := by simp [rl]
theorem rl_get (ss cs : List Nat) (k : Nat) (h : k < (rl ss cs).length) : (rl ss cs)[k] = (ss.getD k 0 % 20, 1 + cs.getD (k % cs.length) 0 % 20) := by simp [rl]
theorem rl_few (ss cs : List Nat) : ∀ r ∈ rl ss cs, r.1 ≤ 1000000 ∧ 1 ≤ r.2 ∧ r.2 ≤ 20 := by
  intro r hr
  obtain ⟨k, _, rfl⟩ := List.mem_map.1 hr
  simp only
  omega
theorem tot_few : ∀ {l : List Run}, (∀ r ∈ l, r.2 ≤ 20) → tot l ≤ 20 * l.length
  | [], _ => by simp [tot]
  | r :: l, h => by
    have h1 := h r (by simp)
    have h2 := tot_few (l := l) (fun x hx => h x (by simp [hx]))
    rw [tot_cons, List.length_cons]
    omega
/-- a run's first blocks; all blocks of runs -/
def pre (a b : Nat) : List Nat := (List.range b).map (a + ·)
theorem pre_succ (a b : Nat) : pre a (b + 1) = pre a b ++ [a + b] := by simp [pre, List.range_succ]
theorem pre_add (a x : Nat) : ∀ y, pre a (x + y) = pre a x ++ pre (a + x) y
  | 0 => by simp [pre]
  | y + 1 => by rw [← Nat.add_assoc, pre_succ, pre_add a x y, pre_succ, List.append_assoc, Nat.add_assoc]
theorem pre_len (a b : Nat) : (pre a b).length = b := by simp [pre]
def blks (l : List Run) : List Nat := l.flatMap fun r => pre r.1 r.2
theorem blks_append (l l' : List Run) : blks (l ++ l') = blks l ++ blks l' := by simp [blks]
theorem blks_one (r : Run) : blks [r] = pre r.1 r.2 := by simp [blks]
theorem blks_len : ∀ l : List Run, (blks l).length = tot l
  | [] => rfl
  | r :: l => by
    have := blks_len l
    rw [show r :: l = [r] ++ l from rfl, blks_append, List.length_append, this, blks_one, pre_len, tot_append]
    simp [tot]
theorem blks_take {l : List Run} {k : Nat} (h : k < l.length) : blks (l.take (k + 1)) = blks (l.take k) ++ pre l[k].1 l[k].2 := by
  rw [List.take_succ_eq_append_getElem h, blks_append, blks_one]
theorem blks_get {l : List Run} {k b : Nat} (h : k < l.length) (hb : b < l[k].2) : (blks l)[tot (l.take k) + b]? = some (l[k].1 + b) := by
  have e : l = l.take k ++ ([l[k]] ++ l.drop (k + 1)) := by
    rw [List.singleton_append, ← List.drop_eq_getElem_cons h, List.take_append_drop]
  conv => lhs; rw [e, blks_append, blks_append, blks_one]
  rw [List.getElem?_append_right (by rw [blks_len, List.take_left' (by simp; omega)]; omega), blks_len]
  rw [List.take_left' (by simp; omega), Nat.add_sub_cancel_left, List.getElem?_append_left (by rw [pre_len]; exact hb)]
  simp [pre, hb]
theorem jn1_blks (J : List Run) (r : Run) : blks (jn1 J r) = blks J ++ pre r.1 r.2 := by
  rcases last_split' J with h | ⟨S, q, h⟩
  · subst h; rw [jn1_nil, blks_one]; rfl
  · subst h
    by_cases e : q.1 + q.2 = r.1
    · rw [jn1_on e, blks_append, blks_append, blks_one, blks_one, List.append_assoc]
      simp only
      rw [pre_add, e]
    · rw [jn1_not e, blks_append, blks_one]
theorem jn_blks (l : List Run) : ∀ k, k ≤ l.length → blks (jn (l.take k)) = blks (l.take k)
  | 0, _ => by simp [jn, blks]
  | k + 1, h => by rw [jn_take (by omega), jn1_blks, jn_blks l k (by omega), blks_take (by omega)]
/-- none begins where the one ahead ends -/
def Sep (J : List Run) : Prop := ∀ k (h : k + 1 < J.length), (J[k]'(by omega)).1 + (J[k]'(by omega)).2 ≠ J[k + 1].1
theorem jn1_sep {J : List Run} {r : Run} (h : Sep J) : Sep (jn1 J r) := by
  rcases last_split' J with e | ⟨S, q, e⟩
  · subst e
    intro k hk
    simp [jn1] at hk
  · subst e
    by_cases e : q.1 + q.2 = r.1
    · rw [jn1_on e]
      intro k hk
      have hk' : k < S.length := by simpa using hk
      have := h k (by simpa using hk)
      rw [List.getElem_append_left hk'] at this ⊢
      by_cases hk2 : k + 1 < S.length
      · rw [List.getElem_append_left hk2] at this ⊢
        exact this
      · obtain hk3 : k + 1 = S.length := by omega
        rw [List.getElem_append_right (by omega)] at this ⊢
        simpa [hk3] using this
    · rw [jn1_not e]
      intro k hk
      have hk' : k < (S ++ [q]).length := by simp at hk ⊢; omega
      rw [List.getElem_append_left hk']
      by_cases hk2 : k + 1 < (S ++ [q]).length
      · rw [List.getElem_append_left hk2]
        exact h k hk2
      · have hk3 : k = S.length := by simp at hk2 hk; omega
        subst hk3
        rw [List.getElem_append_right (Nat.le_refl _), List.getElem_append_right (by simp)]
        simpa using e
theorem jn_sep (l : List Run) : ∀ k, k ≤ l.length → Sep (jn (l.take k))
  | 0, _ => fun k hk => by simp [jn] at hk
  | k + 1, h => by
    rw [jn_take (by omega)]
    exact jn1_sep (jn_sep l k (by omega))

def ints (l : List Nat) : List Value := l.map fun x : Nat => Value.int .i64 (x : Int)
theorem ints_snoc (l : List Nat) (x : Nat) : ints (l ++ [x]) = ints l ++ [.int .i64 (x : Int)] := by simp [ints]
theorem own_ints {W : World} {B n c : Nat} {G : Option Addr} {l : List Nat} (h : W.ownsRow B 3 1 (.slice G n c) n (ints l)) : Uns .i64 W G l ∧ l.length = n := by
  have hl : l.length = n := by
    have := h.1
    simpa [ints] using this
  refine ⟨⟨fun j hj => ?_⟩, hl⟩
  obtain ⟨g, e, h1, h2⟩ := Pack.own_cells h j (by omega)
  refine ⟨g, 0, e, h1, ?_⟩
  rw [h2, ints, List.getElem?_map, List.getElem?_eq_getElem hj]
  rfl

/-- the runs, and their blocks, of the call's own -/
structure Two (w0 w : World) (G : Option Addr) (m gc : Nat) (L : List Run) (G2 : Option Addr) (m2 gc2 : Nat) (bl : List Nat) : Prop where
  X1 : w.ownsRow w0.heap.size 30 2 (.slice G m gc) m (rcells L)
  X2 : w.ownsRow w0.heap.size 3 1 (.slice G2 m2 gc2) m2 (ints bl)
  B : Below w0.heap.size w0 w
theorem Two.alloc {w0 w : World} {G : Option Addr} {m gc : Nat} {L : List Run} {G2 : Option Addr} {m2 gc2 : Nat} {bl : List Nat} (h : Two w0 w G m gc L G2 m2 gc2 bl) (o : Obj) : Two w0 (w.alloc o) G m gc L G2 m2 gc2 bl :=
  ⟨h.X1.alloc o, h.X2.alloc o, h.B.alloc h.B.size o⟩

set_option maxRecDepth 100000 in
set_option maxHeartbeats 4000000 in
theorem joins_law (w : World) (hT : Tab w) (A : Option Addr) (c : Nat) (ss : List Nat) (hs : Uns .u8 w A ss) (hs8 : ∀ u ∈ ss, u < 256) (hsl : ss.length ≤ 9223372036854775807) (A2 : Option Addr) (c2 : Nat) (cs : List Nat) (hc : Uns .u8 w A2 cs) (hc8 : ∀ u ∈ cs, u < 256) (hcl : cs.length ≤ 9223372036854775807) :
    Calls Tryd.prog 7 #[.slice A ss.length c, .slice A2 cs.length c2] w fun e w' => e = .returned (.bool true) ∧ Below w.heap.size w w' := by
  have hlt := hT.lt
  have HT := Lib.hid hT
  have HL := Lib.hid (fun (w' : World) (h : Tab w') => lives_any w' h)
  have HS := Lib.hid hs
  have HC := Lib.hid hc
  have HS8 := Lib.hid hs8
  have HC8 := Lib.hid hc8
  clear hT hs hc hs8 hc8
  by_cases hlen : ss.length ≤ 30 ∧ 1 ≤ cs.length
  · obtain ⟨hl30, hm1⟩ := hlen
    have hl1 : ¬ (30 : Int) < (ss.length : Int) := by omega
    have hl2 : ((cs.length : Int) == 0) = false := beq_eq_false_iff_ne.2 (by omega)
    have hl1d : decide ((30 : Int) < (ss.length : Int)) = false := decide_eq_false hl1
    have hfew := rl_few ss cs
    have hLn := rl_len ss cs
    have HLG := Lib.hid (rl_get ss cs)
    generalize rl ss cs = L at *
    have htot := tot_few (l := L) (fun r hr => (hfew r hr).2.2)
    have hT600 : tot L ≤ 600 := by omega
    have HBD := Lib.hid (show Bd 1000000 L from fun r hr => ⟨(hfew r hr).1, (hfew r hr).2.1⟩)
    have HLN := Lib.hid hLn
    obtain ⟨i0, hi0, hz0, hz1, hz2⟩ := info_parts run_info
    obtain ⟨i1, hi1, hy0, hy1, hy2⟩ := info_parts Pack.int_info
    clear hfew hLn htot
    go_enter Tryd.func7, Tryd.ntmps7
    go_wp2_with fail
    refine (HL.out _ HT.out).mono ?_
    rintro e w1 ⟨rfl, hb1⟩
    have HB1 := Lib.hid hb1
    have HS1 := Lib.hid (HS.out.keep hb1)
    have HC1 := Lib.hid (HC.out.keep hb1)
    clear hb1
    go_wp2
    go_loopw [5, 6, 31] (fun lv av i wr => ∃ (k gc gc2 t0 : Nat) (G G2 : Option Addr), k ≤ ss.length ∧ i = .int .i64 (k : Int) ∧ lv = .slice G k gc ∧ av = .slice G2 t0 gc2 ∧ t0 = tot (L.take k) ∧ Two w1 wr G k gc (L.take k) G2 t0 gc2 (blks (L.take k))) (fun _ _ i _ => ss.length - (intOf i).toNat)
    case atStart => exact ⟨0, 0, 0, 0, none, none, Nat.zero_le _, rfl, rfl, rfl, rfl, ⟨rfl, .inl ⟨rfl, rfl⟩⟩, ⟨rfl, .inl ⟨rfl, rfl⟩⟩, Below.refl _ _⟩
    case round =>
      obtain ⟨k, gc, gc2, t0, G, G2, hk, rfl, rfl, rfl, ht0, hTw⟩ := hrel
      by_cases hlt2 : k < ss.length
      · have hkL : k < L.length := by rw [HLN.out]; exact hlt2
        obtain ⟨b, o, rfl, hbb, hcell⟩ := (HS1.out.keep hTw.B).at' k hlt2
        have hdm : k % cs.length < cs.length := Nat.mod_lt _ (by omega)
        obtain ⟨b2, o2, rfl, hbb2, hcell2⟩ := (HC1.out.keep hTw.B).at' (k % cs.length) hdm
        have hLk := HLG.out k hkL
        have hs256 := HS8.out ss[k] (List.getElem_mem _)
        have hc256 := HC8.out (cs[k % cs.length]'hdm) (List.getElem_mem _)
        rw [List.getD_eq_getElem?_getD, List.getElem?_eq_getElem hlt2, List.getD_eq_getElem?_getD, List.getElem?_eq_getElem hdm] at hLk
        simp only [Option.getD_some] at hLk
        generalize ss[k] = s at *
        generalize cs[k % cs.length] = cv at *
        obtain ⟨d, hd⟩ : ∃ d, d = k % cs.length := ⟨_, rfl⟩
        rw [← hd] at hcell2 hdm
        have hkm : (k : Int) % (cs.length : Int) = (d : Int) := by rw [hd]; rfl
        obtain ⟨a, ha⟩ : ∃ a, a = s % 20 := ⟨_, rfl⟩
        have ha20 : a < 20 := by omega
        have hsa : (s : Int) % 20 = (a : Int) := by omega
        obtain ⟨e0, he0⟩ : ∃ e, e = cv % 20 := ⟨_, rfl⟩
        have he20 : e0 < 20 := by omega
        have hce : (cv : Int) % 20 = (e0 : Int) := by omega
        obtain ⟨x, hx⟩ : ∃ x, x = 1 + e0 := ⟨_, rfl⟩
        have hex : 1 + (e0 : Int) = (x : Int) := by omega
        have hx20 : x ≤ 20 := by omega
        rw [← ha, ← he0, ← hx] at hLk
        have HTK := Lib.hid (show L.take (k + 1) = L.take k ++ [(a, x)] by rw [List.take_succ_eq_append_getElem hkL, hLk])
        have HT0 := Lib.hid ht0
        have ht6 : t0 ≤ 600 := by have := tot_take_le L k; omega
        have hk0 : (0 : Int) ≤ (k : Int) := by omega
        have hk1 : (k : Int) < (ss.length : Int) := by omega
        have hd0 : (0 : Int) ≤ (d : Int) := by omega
        have hd1 : (d : Int) < (cs.length : Int) := by omega
        have HTW := Lib.hid ((hTw.alloc (.cells #[.int .i64 (a : Int), .int .i64 (x : Int)] 30)).alloc (.cells #[.int .i64 (a : Int), .int .i64 (x : Int)] 30))
        have HOZ := Lib.hid ((own2_new wr (a : Int) (x : Int) 30).keep ((Below.refl _ _).alloc (Nat.le_refl _) (.cells #[.int .i64 (a : Int), .int .i64 (x : Int)] 30)))
        have HCT := Lib.hid (cells_two_new (wr.alloc (.cells #[.int .i64 (a : Int), .int .i64 (x : Int)] 30)) (.int .i64 (a : Int)) (.int .i64 (x : Int)) 30)
        rw [World.size_alloc] at HCT
        have HG1 := Lib.hid (fun g hg => (World.ownsRow.lt hTw.X1 g hg).2)
        have HG2 := Lib.hid (fun g hg => (World.ownsRow.lt hTw.X2 g hg).2)
        have hcs0 : ¬ (cs.length : Int) = 0 := by omega
        have hbw := hTw.B.size
        clear hTw ht0 hd ha he0 hx hLk
        go_wp2_with (at_builtin; refine wpList_append_own_at _ rfl (.tmp 50) (.tmp 52) 41 rfl w1.heap.size 30 i0 (.agg #[.int .i64 0, .int .i64 0]) 2 16 Tryd.underlying41 hi0 hz0 hz1 hz2 rfl (by decide) (.slice G k gc) k (rcells (L.take k)) rfl HTW.out.X1 ⟨wr.heap.size + 1, 0, none⟩ 1 1 [.int .i64 (a : Int), .int .i64 (x : Int)] rfl rfl HCT.out (by simp [Value.oneCell']) (by unfold maxLen; omega) (by omega) (by have := HTW.out.B.size; omega) ?_
                     intro v' w3 hown3 hgr3 _ _
                     obtain ⟨G', gc', rfl⟩ := row_slice2 hown3
                     have h2 := HTW.out.X2.kept hgr3 (Pack.rows_apart HTW.out.X2 HTW.out.X1 (by decide))
                     have HB4 := Lib.hid (HTW.out.B.grown hgr3 HTW.out.B.size (fun k hk => row_base_lt2 HTW.out.X1 hk))
                     have HT4 := Lib.hid (show Two w1 w3 G' (k + 1) gc' (L.take (k + 1)) G2 t0 gc2 (blks (L.take k)) from ⟨by rw [HTK.out, rcells_snoc]; exact hown3, h2, HB4.out⟩)
                     have HO4 := Lib.hid (HOZ.out.grown hgr3 (fun e => Nat.lt_irrefl _ (HG1.out _ e.symm)))
                     have ho41 : w3.cell? ⟨wr.heap.size, 1, none⟩ = some (.int .i64 (x : Int)) := HO4.out.c1
                     clear hown3 hgr3 h2)
        have HGV := Lib.hid (show some wr.heap.size ≠ (Value.slice G2 t0 gc2).ownBlock from fun e => Nat.lt_irrefl _ (HG2.out _ e.symm))
        clear hcell hcell2 hbb hbb2 HTW HOZ HCT HG1 HG2
        generalize hv : wr.heap.size = v at *
        clear hv
        go_loopw [6, 56] (fun av i w6 => ∃ (b gc6 : Nat) (G6 : Option Addr), b ≤ x ∧ i = .int .i64 (b : Int) ∧ av = .slice G6 (t0 + b) gc6 ∧ Two w1 w6 G' (k + 1) gc' (L.take (k + 1)) G6 (t0 + b) gc6 (blks (L.take k) ++ pre a b) ∧ Own2 w6 v (a : Int) (x : Int) ∧ some v ≠ (Value.slice G6 (t0 + b) gc6).ownBlock) (fun _ i _ => x - (intOf i).toNat)
        case atStart => exact ⟨0, gc2, G2, Nat.zero_le _, rfl, rfl, by rw [show pre a 0 = [] from rfl, List.append_nil]; exact HT4.out, HO4.out, HGV.out⟩
        case round =>
          obtain ⟨b3, gc6, G6, hb3, rfl, rfl, hTw6, hO6, hne6⟩ := hrel
          obtain ⟨t1, ht1⟩ : ∃ t, t = t0 + b3 := ⟨_, rfl⟩
          rw [← ht1] at hTw6 hne6 ⊢
          have hv0 := hO6.c0
          by_cases hbx : b3 < x
          · obtain ⟨d3, hd3⟩ : ∃ d, d = a + b3 := ⟨_, rfl⟩
            have hsum : (a : Int) + (b3 : Int) = (d3 : Int) := by omega
            have HPR := Lib.hid (show pre a (b3 + 1) = pre a b3 ++ [d3] by rw [pre_succ, hd3])
            have HT1 := Lib.hid (show t1 + 1 = t0 + (b3 + 1) by omega)
            have ht17 : t1 ≤ 700 := by omega
            have hd37 : d3 ≤ 700 := by omega
            have HTW6 := Lib.hid (hTw6.alloc (.cells #[.int .i64 (d3 : Int)] 3))
            have HO7 := Lib.hid (hO6.keep ((Below.refl _ _).alloc (Nat.le_refl _) (.cells #[.int .i64 (d3 : Int)] 3)))
            have HNE := Lib.hid hne6
            have hvl := hO6.lt
            clear hTw6 hO6 hne6 ht1 hd3
            go_wp2_with (at_builtin; refine wpList_append_own_at _ rfl (.tmp 59) (.tmp 64) 48 rfl w1.heap.size 3 i1 (.int .i64 0) 1 8 Tryd.underlying48 hi1 hy0 hy1 hy2 rfl (by decide) (.slice G6 t1 gc6) t1 (ints (blks (L.take k) ++ pre a b3)) rfl HTW6.out.X2 ⟨wr.heap.size, 0, none⟩ 1 1 [.int .i64 (d3 : Int)] rfl rfl (Pack.cell_one_at wr _ rfl _ _) (by simp [Value.oneCell']) (by unfold maxLen; omega) (by omega) (by have := HTW6.out.B.size; omega) ?_
                         intro v' w7 hown7 hgr7 _ hat7
                         obtain ⟨G7, gc7, rfl⟩ := Pack.row_slice hown7
                         have h1 := HTW6.out.X1.kept hgr7 (Pack.rows_apart HTW6.out.X1 HTW6.out.X2 (by decide))
                         have HB7 := Lib.hid (HTW6.out.B.grown hgr7 HTW6.out.B.size (fun k hk => Pack.row_base_lt HTW6.out.X2 hk))
                         have HT7 := Lib.hid (show Two w1 w7 G' (k + 1) gc' (L.take (k + 1)) G7 (t1 + 1) gc7 (blks (L.take k) ++ pre a (b3 + 1)) from ⟨h1, by rw [HPR.out, ← List.append_assoc, ints_snoc]; exact hown7, HB7.out⟩)
                         have HO8 := Lib.hid (HO7.out.grown hgr7 HNE.out)
                         have HN8 := Lib.hid (show some v ≠ (Value.slice G7 (t1 + 1) gc7).ownBlock from by
                           intro e
                           rcases hat7 with hx7 | hx7
                           · exact HNE.out (e.trans hx7)
                           · rw [hx7] at e
                             injection e with e
                             simp at e
                             omega)
                         clear hown7 hgr7 h1 hat7)
            refine ⟨⟨b3 + 1, gc7, G7, by omega, by go_num, ?_, ?_, HO8.out, ?_⟩, by simp [intOf]; omega⟩
            · rw [HT1.out]
            · rw [← HT1.out]
              exact HT7.out
            · rw [← HT1.out]
              exact HN8.out
          · obtain rfl : b3 = x := by omega
            have HTW6 := Lib.hid hTw6
            have HT1 := Lib.hid ht1
            have HTT := Lib.hid (show tot (L.take (k + 1)) = tot (L.take k) + b3 by rw [HTK.out, tot_snoc])
            have HBB := Lib.hid (show blks (L.take (k + 1)) = blks (L.take k) ++ pre a b3 by rw [HTK.out, blks_append, blks_one])
            clear hTw6 hO6 hne6 ht1
            go_wp2
            refine ⟨⟨k + 1, gc', gc6, t1, G', G6, by omega, by go_num, rfl, rfl, by rw [HTT.out, ← HT0.out, HT1.out], ?_⟩, by simp [intOf]; omega⟩
            rw [HBB.out]
            exact HTW6.out
      · have hkn : k = ss.length := by omega
        subst hkn
        have hLt : L.take ss.length = L := by rw [← HLN.out]; exact List.take_length
        rw [hLt] at hTw ht0
        obtain ⟨hrsL, -⟩ := own_rs hTw.X1
        obtain ⟨hall, -⟩ := own_ints hTw.X2
        have HRL := Lib.hid hrsL
        have HALL := Lib.hid hall
        have HBB := Lib.hid hTw.B
        have hjoin := join_any wr _ G gc L hrsL (by rw [HLN.out]; omega) HBD.out (by omega)
        rw [HLN.out] at hjoin
        have HJN := Lib.hid hjoin
        have hjt := jn_tot L L.length (Nat.le_refl _)
        have hjb := jn_blks L L.length (Nat.le_refl _)
        have hjs := jn_sep L L.length (Nat.le_refl _)
        have hjl := jn_len L L.length (Nat.le_refl _)
        have hjd := jn_bd HBD.out L.length (Nat.le_refl _)
        rw [List.take_length] at hjt hjb hjs hjl hjd
        have hLL := HLN.out
        have hJ30 : (jn L).length ≤ 30 := by omega
        generalize jn L = J at *
        subst ht0
        generalize hTL : tot L = T at *
        have HJT := Lib.hid hjt
        have HJB := Lib.hid hjb
        have HJS := Lib.hid hjs
        have HJD := Lib.hid hjd
        have HTL := Lib.hid hTL
        clear hTw hLt hrsL hall hjoin hjt hjb hjs hjl hjd hLL hTL hk
        go_wp2_with fail
        refine HJN.out.mono ?_
        rintro e w5 ⟨G5, gc5, rfl, hrs5, hb5⟩
        have HR5 := Lib.hid hrs5
        have HB5 := Lib.hid hb5
        have HRL5 := Lib.hid (HRL.out.keep hb5)
        have HAL5 := Lib.hid (HALL.out.keep hb5)
        have HBW := Lib.hid (HBB.out.trans (hb5.mono HBB.out.size))
        clear hrs5 hb5
        go_wp2
        go_loopw [11, 72] (fun s11 i w6 => ∃ k : Nat, k ≤ J.length ∧ i = .int .i64 (k : Int) ∧ s11 = .int .i64 (tot (J.take k) : Int) ∧ Below w5.heap.size w5 w6) (fun _ i _ => J.length - (intOf i).toNat)
        case atStart => exact ⟨0, Nat.zero_le _, rfl, rfl, Below.refl _ _⟩
        case round =>
          obtain ⟨k, hk, rfl, rfl, hbk⟩ := hrel
          by_cases hkl : k < J.length
          · have hrs := HR5.out.keep hbk
            obtain ⟨b, o, rfl, hbb, _, hc0, hc1⟩ := hrs.at' k hkl
            have htk := tot_take hkl
            have htl := tot_take_le J (k + 1)
            have hJT := HJT.out
            have hxd := HJD.out J[k] (List.getElem_mem _)
            have HBG := Lib.hid (fun b (hb : b < J[k].2) => blks_get hkl hb)
            have HTK := Lib.hid htk
            have htb : tot (J.take k) + J[k].2 ≤ 600 := by omega
            have hba := (Below.refl wr.heap.size wr).alloc (Nat.le_refl _) (.cells #[.int .i64 (J[k].1 : Int), .int .i64 (J[k].2 : Int)] 30)
            have HB6 := Lib.hid (hbk.trans (hba.mono hbk.size))
            have HOZ := Lib.hid (own2_new wr (J[k].1 : Int) (J[k].2 : Int) 30)
            have hi0' : (0 : Int) ≤ (k : Int) := by omega
            have hi1' : (k : Int) < (J.length : Int) := by omega
            have HRQ := Lib.hid (hrs.keep hba)
            have HTB := Lib.hid (show tot (J.take k) + J[k].2 ≤ T by omega)
            have HSE := Lib.hid (fun (k' : Nat) (h : k = k' + 1) => (show ∀ h2 : k' < J.length, (J[k']'h2).1 + (J[k']'h2).2 ≠ J[k].1 from fun h2 => by subst h; exact HJS.out k' hkl))
            have hkw := hbk.size
            clear hrs hbk htk htl hJT hba
            generalize J[k].1 = a at *
            generalize J[k].2 = x at *
            generalize tot (J.take k) = t1 at *
            go_upto_region 21 with fail
            generalize hw6 : wr.alloc (.cells #[.int .i64 (a : Int), .int .i64 (x : Int)] 30) = w6 at *
            clear hw6 hc0 hc1 hbb
            generalize wr.heap.size = v at *
            have hv0 := HOZ.out.c0
            have hv1 := HOZ.out.c1
            by_cases hk0 : k = 0
            · have hgd : decide ((0 : Int) < (k : Int)) = false := decide_eq_false (by omega)
              have hgd' : decide (0 < k) = false := decide_eq_false (by omega)
              clear hk0
              go_wp2_with fail
              go_quiet (fail)
              have HB7 := Lib.hid (below_drewN HB6.out nq)
              have HO7 := Lib.hid (HOZ.out.drewN nq)
              clear hgd hgd' hv0 hv1
              generalize w6.drewN nq = wq at *
              have hv1 := HO7.out.c1
              go_wp2
              go_loopw [11, 99] (fun s11 i wx => ∃ j : Nat, j ≤ x ∧ i = .int .i64 (j : Int) ∧ s11 = .int .i64 ((t1 + j : Nat) : Int) ∧ Below w5.heap.size w5 wx ∧ Own2 wx v (a : Int) (x : Int)) (fun _ i _ => x - (intOf i).toNat)
              case atStart => exact ⟨0, Nat.zero_le _, rfl, rfl, HB7.out, HO7.out⟩
              case round =>
                obtain ⟨j, hj, rfl, rfl, hbx, hox⟩ := hrel
                obtain ⟨d, hd⟩ : ∃ d, d = t1 + j := ⟨_, rfl⟩
                rw [← hd]
                by_cases hjx : j < x
                · have hget := HBG.out j hjx
                  rw [HJB.out, ← hd] at hget
                  obtain ⟨hdl, hge⟩ := List.getElem?_eq_some_iff.1 hget
                  obtain ⟨b7, o7, rfl, hb7, hc7⟩ := (HAL5.out.keep hbx).at' d hdl
                  rw [hge] at hc7
                  obtain ⟨e, he⟩ : ∃ e, e = a + j := ⟨_, rfl⟩
                  rw [← he] at hc7
                  have hvx0 := hox.c0
                  have hs1 : IntKind.i64.wrap ((a : Int) + (j : Int)) = (e : Int) := by rw [IntWalk.i64_in _ (by omega)]; omega
                  have hs1' : (a : Int) + (j : Int) = (e : Int) := by omega
                  have hel : e ≤ 2000000 := by omega
                  have hdT : d < T := by have := HTB.out; omega
                  have hdd : decide ((T : Int) ≤ (d : Int)) = false := decide_eq_false (by omega)
                  have hdd' : decide (T ≤ d) = false := decide_eq_false (by omega)
                  have hd0 : (0 : Int) ≤ (d : Int) := by omega
                  have hd1 : (d : Int) < (T : Int) := by omega
                  have hd7 : d ≤ 600 := by omega
                  have HDD := Lib.hid (show d + 1 = t1 + (j + 1) by omega)
                  have HBX := Lib.hid hbx
                  have HOX := Lib.hid hox
                  clear hget hge hdl hbx hox hd he
                  go_wp2_with fail
                  go_quiet (fail)
                  have HBX2 := Lib.hid (below_drewN HBX.out nq)
                  have HOX2 := Lib.hid (HOX.out.drewN nq)
                  clear hs1 hs1' hdd hdd'
                  go_wp2
                  refine ⟨⟨j + 1, by omega, by go_num, by rw [← HDD.out]; go_num, HBX2.out, HOX2.out⟩, by simp [intOf]; omega⟩
                · obtain rfl : j = x := by omega
                  have HBX := Lib.hid hbx
                  have HDT := Lib.hid hd
                  clear hbx hox hd
                  go_wp2
                  refine ⟨⟨k + 1, by omega, by go_num, by rw [HTK.out, HDT.out], HBX.out⟩, by simp [intOf]; omega⟩
            · have hgd : decide ((0 : Int) < (k : Int)) = true := decide_eq_true (by omega)
              have hgd' : decide (0 < k) = true := decide_eq_true (by omega)
              have hgd'' : 0 < k := by omega
              obtain ⟨k1, hk1⟩ : ∃ k1, k = k1 + 1 := ⟨k - 1, by omega⟩
              have hk1J : k1 < J.length := by omega
              obtain ⟨b9, o9, e9, _, _, hp0, hp1⟩ := HRQ.out.at' k1 hk1J
              injection e9 with e9
              injection e9 with e9a e9b
              subst e9a
              subst e9b
              have hsep := HSE.out k1 hk1 hk1J
              have hpd := HJD.out J[k1] (List.getElem_mem _)
              have htk1 := tot_take hk1J
              have htl1 := tot_take_le J (k1 + 1)
              have hJT := HJT.out
              have hp3 : J[k1].2 ≤ 600 := by have := HTL.out; omega
              have hp4 : J[k1].1 ≤ 1000000 := hpd.1
              clear hpd htk1 htl1 hJT
              generalize J[k1].1 = a1 at *
              generalize J[k1].2 = x1 at *
              obtain ⟨e1, he1⟩ : ∃ e, e = a1 + x1 := ⟨_, rfl⟩
              have hkw1 : IntKind.i64.wrap ((k : Int) - 1) = (k1 : Int) := by rw [IntWalk.i64_in _ (by omega)]; omega
              have hkw1' : (k : Int) - 1 = (k1 : Int) := by omega
              have hk10 : (0 : Int) ≤ (k1 : Int) := by omega
              have hk11 : (k1 : Int) < (J.length : Int) := by omega
              have hs3 : IntKind.i64.wrap ((a1 : Int) + (x1 : Int)) = (e1 : Int) := by rw [IntWalk.i64_in _ (by omega)]; omega
              have hs3' : (a1 : Int) + (x1 : Int) = (e1 : Int) := by omega
              have he1l : e1 ≤ 1000600 := by omega
              have hne : ((e1 : Int) == (a : Int)) = false := beq_eq_false_iff_ne.2 (by omega)
              have HK1 := Lib.hid hk1
              clear hk0 hk1 hsep he1
              go_wp2_with fail
              go_quiet (fail)
              have HB7 := Lib.hid (below_drewN HB6.out nq)
              have HO7 := Lib.hid (HOZ.out.drewN nq)
              clear hgd hgd' hgd'' hkw1 hkw1' hs3 hs3' hne hp0 hp1 hv0 hv1
              generalize w6.drewN nq = wq at *
              have hv1 := HO7.out.c1
              go_wp2
              go_loopw [11, 99] (fun s11 i wx => ∃ j : Nat, j ≤ x ∧ i = .int .i64 (j : Int) ∧ s11 = .int .i64 ((t1 + j : Nat) : Int) ∧ Below w5.heap.size w5 wx ∧ Own2 wx v (a : Int) (x : Int)) (fun _ i _ => x - (intOf i).toNat)
              case atStart => exact ⟨0, Nat.zero_le _, rfl, rfl, HB7.out, HO7.out⟩
              case round =>
                obtain ⟨j, hj, rfl, rfl, hbx, hox⟩ := hrel
                obtain ⟨d, hd⟩ : ∃ d, d = t1 + j := ⟨_, rfl⟩
                rw [← hd]
                by_cases hjx : j < x
                · have hget := HBG.out j hjx
                  rw [HJB.out, ← hd] at hget
                  obtain ⟨hdl, hge⟩ := List.getElem?_eq_some_iff.1 hget
                  obtain ⟨b7, o7, rfl, hb7, hc7⟩ := (HAL5.out.keep hbx).at' d hdl
                  rw [hge] at hc7
                  obtain ⟨e, he⟩ : ∃ e, e = a + j := ⟨_, rfl⟩
                  rw [← he] at hc7
                  have hvx0 := hox.c0
                  have hs1 : IntKind.i64.wrap ((a : Int) + (j : Int)) = (e : Int) := by rw [IntWalk.i64_in _ (by omega)]; omega
                  have hs1' : (a : Int) + (j : Int) = (e : Int) := by omega
                  have hel : e ≤ 2000000 := by omega
                  have hdT : d < T := by have := HTB.out; omega
                  have hdd : decide ((T : Int) ≤ (d : Int)) = false := decide_eq_false (by omega)
                  have hdd' : decide (T ≤ d) = false := decide_eq_false (by omega)
                  have hd0 : (0 : Int) ≤ (d : Int) := by omega
                  have hd1 : (d : Int) < (T : Int) := by omega
                  have hd7 : d ≤ 600 := by omega
                  have HDD := Lib.hid (show d + 1 = t1 + (j + 1) by omega)
                  have HBX := Lib.hid hbx
                  have HOX := Lib.hid hox
                  clear hget hge hdl hbx hox hd he
                  go_wp2_with fail
                  go_quiet (fail)
                  have HBX2 := Lib.hid (below_drewN HBX.out nq)
                  have HOX2 := Lib.hid (HOX.out.drewN nq)
                  clear hs1 hs1' hdd hdd'
                  go_wp2
                  refine ⟨⟨j + 1, by omega, by go_num, by rw [← HDD.out]; go_num, HBX2.out, HOX2.out⟩, by simp [intOf]; omega⟩
                · obtain rfl : j = x := by omega
                  have HBX := Lib.hid hbx
                  have HDT := Lib.hid hd
                  clear hbx hox hd
                  go_wp2
                  refine ⟨⟨k + 1, by omega, by go_num, by rw [HTK.out, HDT.out], HBX.out⟩, by simp [intOf]; omega⟩
          · obtain rfl : k = J.length := by omega
            rw [List.take_length, HJT.out]
            have HB6 := Lib.hid hbk
            have HTJ := Lib.hid (total_any wr _ G5 gc5 J (HR5.out.keep hbk) (by omega) (by rw [HJT.out]; omega))
            have HTLL := Lib.hid (fun (w' : World) (h : Below wr.heap.size wr w') => total_any w' _ G gc L ((HRL5.out.keep hbk).keep h) (by rw [HLN.out]; omega) (by rw [HTL.out]; omega))
            rw [HJT.out] at HTJ
            rw [HTL.out, HLN.out] at HTLL
            clear hbk
            go_wp2_with fail
            refine HTJ.out.mono ?_
            rintro e w7 ⟨rfl, hb7⟩
            have HB7 := Lib.hid hb7
            clear hb7
            go_wp2_with fail
            refine (HTLL.out _ HB7.out).mono ?_
            rintro e w8 ⟨rfl, hb8⟩
            have HB8 := Lib.hid (((HB1.out.trans (HBW.out.mono HB1.out.size)).trans (HB6.out.mono (Nat.le_trans HB1.out.size HBW.out.size))).trans ((HB7.out.trans (hb8.mono HB7.out.size)).mono (Nat.le_trans (Nat.le_trans HB1.out.size HBW.out.size) HB6.out.size)))
            clear hb8
            go_wp2
            go_ret
            exact ⟨rfl, HB8.out⟩
  · by_cases hl0 : ss.length ≤ 30
    · have hl1 : ¬ (30 : Int) < (ss.length : Int) := by omega
      have hl1d : decide ((30 : Int) < (ss.length : Int)) = false := decide_eq_false hl1
      have hl2 : ((cs.length : Int) == 0) = true := beq_iff_eq.2 (by omega)
      clear hlen
      go_enter Tryd.func7, Tryd.ntmps7
      go_wp2_with fail
      refine (HL.out _ HT.out).mono ?_
      rintro e w1 ⟨rfl, hb1⟩
      have HB1 := Lib.hid hb1
      clear hb1
      go_wp2_with fail
      refine (HL.out _ (HT.out.below HB1.out hlt)).mono ?_
      rintro e w2 ⟨rfl, hb2⟩
      have HB2 := Lib.hid (HB1.out.trans (hb2.mono HB1.out.size))
      clear hb2
      go_wp2
      go_ret
      exact ⟨rfl, HB2.out⟩
    · have hl1 : (30 : Int) < (ss.length : Int) := by omega
      clear hlen
      go_enter Tryd.func7, Tryd.ntmps7
      go_wp2_with fail
      refine (HL.out _ HT.out).mono ?_
      rintro e w1 ⟨rfl, hb1⟩
      have HB1 := Lib.hid hb1
      clear hb1
      go_wp2_with fail
      refine (HL.out _ (HT.out.below HB1.out hlt)).mono ?_
      rintro e w2 ⟨rfl, hb2⟩
      have HB2 := Lib.hid (HB1.out.trans (hb2.mono HB1.out.size))
      clear hb2
      go_wp2
      go_ret
      exact ⟨rfl, HB2.out⟩
end Rn
end Go.Proofs.YtblibjjnbbleeaaDoor
