/- The program's All. -/
import Derived.Test.YtdgbpnchkgdmmaaEntChunks
namespace Go.Proofs.Ytdgbpnchkgdmmaa
open Go.RowKit Go.Shelf Go.MapKept
attribute [local go_sem] Oper.semAt_some
namespace Ent

/-- what All leaves -/
def AllTo (w : World) (b : List Nat) (r : Ending) (w' : World) : Prop :=
  match alls b with
  | none => r = .returned (.tuple #[.slice none 0 0, .int .i64 2]) ∧ Below w.heap.size w w'
  | some l => ∃ (G : Option Addr) (gc : Nat), r = .returned (.tuple #[.slice G l.length gc, .int .i64 0]) ∧ Es w' G (ens l) ∧ Below w.heap.size w w'
theorem AllTo.none {w w' : World} {b : List Nat} {r : Ending} (h : alls b = Option.none) (hr : r = .returned (.tuple #[.slice Option.none 0 0, .int .i64 2])) (hb : Below w.heap.size w w') : AllTo w b r w' := by
  unfold AllTo
  rw [h]
  exact ⟨hr, hb⟩
theorem AllTo.some {w w' : World} {b : List Nat} {l : List (List Nat × Nat)} {r : Ending} {G : Option Addr} {gc : Nat} (h : alls b = Option.some l) (hr : r = .returned (.tuple #[.slice G l.length gc, .int .i64 0])) (he : Es w' G (ens l)) (hb : Below w.heap.size w w') : AllTo w b r w' := by
  unfold AllTo
  rw [h]
  exact ⟨G, gc, hr, he, hb⟩

set_option maxHeartbeats 1000000 in
theorem all_len (w : World) (A : Option Addr) (n c : Nat) (l : List Nat) (hn : n = l.length) (hm : n ≤ 9223372036854775807) (h64 : n % 64 ≠ 0) :
    Calls Try.prog 18 #[.slice A n c] w (AllTo w l) := by
  have hne : ((n : Int) % 64 != 0) = true := by simp; omega
  have HNO := Lib.hid (none_len (b := l) (by rw [← hn]; exact h64))
  clear hn h64
  go_enter Try.func18, Try.ntmps18
  go_wp2
  refine bodyPost_ret (v := .tuple #[.slice none 0 0, .int .i64 2]) ?_ rfl (AllTo.none HNO.out rfl ?_)
  · simp [results, Try.results18, go_sem]
  · first
    | exact ((Below.refl _ _).alloc (Nat.le_refl _) _).alloc (by simp) _
    | exact ((((Below.refl _ _).alloc (Nat.le_refl _) _).alloc (by simp) _).setCell (by simp) _).setCell (by simp) _

/-- what chunks that have come are decoded to -/
def dso (l : List Nat) {n : Nat} (pre : List (Fin n)) : List (List Nat × Nat) := pre.map fun x => (dec (chk l x.1)).getD ([], 0)
theorem dso_snoc (l : List Nat) {n : Nat} (pre : List (Fin n)) (x : Fin n) {p : List Nat × Nat} (h : dec (chk l x.1) = some p) : dso l (pre ++ [x]) = dso l pre ++ [p] := by
  unfold dso
  rw [List.map_append]
  simp [h]
/-- between two rounds: all that have come are decoded, and lie in the list; nothing is answered yet -/
def Inv (w : World) (B4 : Nat) (u : Value) (l : List Nat) {n : Nat} (pre : List (Fin n)) (W : World) : Prop :=
  Boxed W (B4 + 1) 29 u ∧ (∀ x ∈ pre, ∃ p, dec (chk l x.1) = some p) ∧ Boxed W w.heap.size 26 (.slice none 0 0) ∧ Boxed W (w.heap.size + 1) 30 (.int .i64 0) ∧
    (∃ v, Boxed W B4 26 v ∧ W.ownsRow w.heap.size 23 2 v pre.length (ecells (ens (dso l pre))) ∧ True) ∧ Below w.heap.size w W
/-- a round has left: one that came is no entry's -/
def Lft (w : World) (l : List Nat) {n : Nat} (c : Code) (pre : List (Fin n)) (W : World) : Prop :=
  (c = .ret ∧ ∃ x ∈ pre, dec (chk l x.1) = none) ∧ Boxed W w.heap.size 26 (.slice none 0 0) ∧ Boxed W (w.heap.size + 1) 30 (.int .i64 2) ∧ Below w.heap.size w W
theorem inv_own {w : World} {B4 B n : Nat} {u : Value} {l : List Nat} (hB : w.heap.size ≤ B) : OwnFrom B (Inv w B4 u l (n := n)) :=
  OwnFrom.and ((boxed_own (B4 + 1) 29 (fun _ => u)).from B) <| OwnFrom.and (ownFrom_pure B (fun pre : List (Fin n) => ∀ x ∈ pre, ∃ p, dec (chk l x.1) = some p)) (OwnFrom.and ((boxed_own w.heap.size 26 (fun _ => .slice none 0 0)).from B) (OwnFrom.and ((boxed_own (w.heap.size + 1) 30 (fun _ => .int .i64 0)).from B)
    (OwnFrom.and ((holdsRow_own w.heap.size B4 26 23 2 (fun pre : List (Fin n) => pre.length) (fun pre => ecells (ens (dso l pre))) (fun _ _ => True)).from B) (ownFrom_below (Nat.le_refl _) hB))))
theorem lft_own {w : World} {B n : Nat} {l : List Nat} (hB : w.heap.size ≤ B) (c : Code) : OwnFrom B (Lft w l c (n := n)) :=
  OwnFrom.and (ownFrom_pure B (fun pre : List (Fin n) => c = .ret ∧ ∃ x ∈ pre, dec (chk l x.1) = none)) (OwnFrom.and ((boxed_own w.heap.size 26 (fun _ => .slice none 0 0)).from B) (OwnFrom.and ((boxed_own (w.heap.size + 1) 30 (fun _ => .int .i64 2)).from B) (ownFrom_below (Nat.le_refl _) hB)))
theorem putObj_other {W : World} {l B : Nat} {o : Obj} (h : B ≠ l) : Kpt B W (W.putObj l o) := World.putObj_heap_other h

theorem keeps_below {B : Nat} {W W' : World} (h : Below W.heap.size W W') : KeepsFrom B W W' := ⟨h.size, fun k _ _ hk _ => (h.block k (Array.getElem?_eq_some_iff.1 hk).1).trans hk⟩
theorem chk_len {l : List Nat} {i : Nat} (h : 64 * i + 64 ≤ l.length) : (chk l i).length = 64 := by
  unfold chk
  rw [List.length_take, List.length_drop]
  omega
theorem chk_bts {W : World} {b o i : Nat} {l : List Nat} (h : Crc.Bts W (some ⟨b, o, none⟩) l) (hi : 64 * i + 64 ≤ l.length) : Crc.Bts W (some ⟨b, o + 64 * i, none⟩) (chk l i) := by
  refine ⟨fun x hx => h.byt x (List.mem_of_mem_drop (List.mem_of_mem_take hx)), by rw [chk_len hi]; omega, fun j hj => ?_⟩
  have hj' := hj
  rw [chk_len hi] at hj'
  obtain ⟨b', o', e, hlt, hc⟩ := h.at' (64 * i + j) (by omega)
  injection e with e
  injection e with e1 e2
  subst e1 e2
  have e : (chk l i)[j] = l[64 * i + j]'(by omega) := by simp only [chk, List.getElem_take, List.getElem_drop]
  exact ⟨b, o + 64 * i, rfl, hlt, by rw [Nat.add_assoc, hc, e]⟩

theorem dso_decs {l : List Nat} {n : Nat} (h : ∀ x ∈ List.finRange n, ∃ p, dec (chk l x.1) = some p) : Decs l (dso l (List.finRange n)) := by
  intro i hi
  have hi' := hi
  unfold dso at hi'
  rw [List.length_map, List.length_finRange] at hi'
  obtain ⟨p, hp⟩ := h ⟨i, hi'⟩ (List.mem_finRange _)
  simp only [dso, List.getElem_map, List.getElem_finRange, Fin.val_cast]
  rw [hp]
  rfl

set_option maxRecDepth 100000 in
set_option maxHeartbeats 2000000 in
theorem all_core (w : World) (A : Option Addr) (b o n c : Nat) (l : List Nat) (h : Crc.Bts w A l) (hn : 64 * n = l.length) (hA : 0 < n → A = some ⟨b, o, none⟩) (hc : 64 * n ≤ c) (h1000 : n ≤ 1000) :
    Calls Try.prog 18 #[.slice A (64 * n) c] w (AllTo w l) := by
  have hne : ((64 * (n : Int)) % 64 != 0) = false := by simp
  have hdv : (64 * (n : Int)) / 64 = (n : Int) := by omega
  obtain ⟨i0, hi0, hz0, hz1, hz2⟩ := info_parts entry_info
  obtain ⟨w2, hmk, hown, hgr⟩ := run_make_own (P := Try.prog) ((w.alloc (.cells #[.slice none 0 0] 26)).alloc (.cells #[.int .i64 0] 30)) w.heap.size 26 23 i0 (.agg #[.string ⟨#[]⟩, .int .i64 0]) 2 Try.underlying26 hi0 hz0 hz1 .i64 .i64 n (by rw [hz2]; omega) (by unfold maxLen; omega) (by simp; omega)
  rw [World.size_alloc, World.size_alloc] at hmk hown
  have HOW := Lib.hid hown
  have HGR := Lib.hid hgr
  have HN := Lib.hid hn
  have H := Lib.hid h
  have HA := Lib.hid hA
  clear hown hgr hn h hA
  refine (callsIn_wide (n := 3)).1 ?_
  refine callsIn_of_wp_marks Try.func18 rfl trivial ?_ rfl
  simp only [Try.ntmps18, List.size_toArray, List.length_cons, List.length_nil, Nat.reduceAdd, Nat.reduceSub, Array.replicate_succ, Array.replicate_zero, List.push_toArray, List.append_toArray, List.nil_append, List.cons_append]
  gi_wp2_with fail
  refine ⟨trivial, ?_⟩
  refine (chunks_in Fence.wide _ trivial rfl _ _ _ _).mono ?_
  rintro e w' ⟨rfl, rfl⟩
  gi_wp2_with fail
  have bx2 : Boxed w2 w.heap.size 26 (.slice none 0 0) := ((Boxed.new w 26 (.slice none 0 0)).alloc (.cells #[.int .i64 0] 30)).kept HGR.out (by simp)
  have bx3 : Boxed w2 (w.heap.size + 1) 30 (.int .i64 0) := by
    have := Boxed.new (w.alloc (.cells #[.slice none 0 0] 26)) 30 (.int .i64 0)
    rw [World.size_alloc] at this
    exact this.kept HGR.out (by simp)
  have hlt2 : w.heap.size + 1 < w2.heap.size := bx3.lt
  have hB2 : Below w.heap.size w w2 := ((((Below.refl w.heap.size w).alloc (Nat.le_refl _) (.cells #[.slice none 0 0] 26)).alloc (by simp) (.cells #[.int .i64 0] 30))).grown HGR.out (by simp; omega) (fun k hk => by cases hk)
  have bx4 := Boxed.new w2 26 (.slice (some ⟨w.heap.size + 1 + 1, 0, none⟩) 0 n)
  have bxn := Boxed.new (w2.alloc (.cells #[.slice (some ⟨w.heap.size + 1 + 1, 0, none⟩) 0 n] 26)) 29 (.slice A (64 * n) c)
  rw [World.size_alloc] at bxn
  have HI0 := Lib.hid (show Inv w w2.heap.size (.slice A (64 * n) c) l (n := n) [] ((w2.alloc (.cells #[.slice (some ⟨w.heap.size + 1 + 1, 0, none⟩) 0 n] 26)).alloc (.cells #[.slice A (64 * n) c] 29)) from
    ⟨bxn, fun x hx => by simp at hx, (bx2.alloc _).alloc _, (bx3.alloc _).alloc _, ⟨_, bx4.alloc _, (HOW.out.alloc _).alloc _, trivial⟩, (hB2.alloc hB2.size _).alloc (by have := hB2.size; simp; omega) _⟩)
  have HXN := Lib.hid bxn
  clear hmk HOW HGR bx2 bx3 bx4 bxn hB2
  generalize hW0 : (w2.alloc (.cells #[.slice (some ⟨w.heap.size + 1 + 1, 0, none⟩) 0 n] 26)).alloc (.cells #[.slice A (64 * n) c] 29) = W0 at *
  have hs0 : W0.heap.size = w2.heap.size + 1 + 1 := by rw [← hW0]; simp
  have HS0 := Lib.hid hs0
  have hle4 : w.heap.size ≤ w2.heap.size := by omega
  clear hW0 hs0
  refine wpIn_rangeFunc_ownG (α := Fin n) rfl (by omega) (gf := 33) (lb := #[.pointer (some ⟨w2.heap.size + 1, 0, none⟩)]) rfl trivial (enters_of Try.func33 (by kernel_rfl) rfl)
    (chunks_stops Fence.wide _ trivial rfl (by omega) (w2.heap.size + 1) A b o c n HA.out hc h1000 W0 HXN.out) (fun h k => Eq.trans k h) (fun W l ob ob' hl _ _ _ => putObj_other (by rw [HS0.out] at hl; omega)) (Below.refl _ _) (fun _ => rfl)
    (Inv w w2.heap.size (.slice A (64 * n) c) l) (Lft w l)
    (inv_own (by rw [HS0.out]; omega)) (lft_own (by rw [HS0.out]; omega)) HI0.out
    (fun x => { tmps := #[.slice A (64 * n) c, undef, .pointer (some ⟨w.heap.size, 0, none⟩), .pointer (some ⟨w.heap.size + 1, 0, none⟩), .pointer (some ⟨w2.heap.size, 0, none⟩), .slice (some ⟨b, o + 64 * x.1, none⟩) 64 (c - 64 * x.1), undef, undef, .slice A (64 * n) c, .int .i64 (64 * n), .int .i64 0, .bool false, .slice A (64 * n) c, .int .i64 (64 * n), .int .i64 n, .slice (some ⟨w.heap.size + 1 + 1, 0, none⟩) 0 n, .slice A (64 * n) c, .func (.func 33) #[] #[.pointer (some ⟨w2.heap.size + 1, 0, none⟩)], .slice (some ⟨b, o + 64 * x.1, none⟩) 64 (c - 64 * x.1), undef, undef, undef, undef, undef, undef, undef, undef, undef, undef, undef, undef, undef, undef, undef], defers := [] }) ?assign ?body ?done ?stop
  case assign =>
    intro l x W K hK
    dsimp only [ech]
    gi_wp2
    exact hK
  case body =>
    rintro lp pre x W ⟨hbn, hp, hb2, hb3, ⟨v, hv, hrow, -⟩, hB⟩ hpl
    have hxn := x.2
    obtain rfl := HA.out (by omega)
    have hbl := H.out.keep hB
    have hcl := chk_len (l := l) (i := x.1) (by have := HN.out; omega)
    have HD := Lib.hid (decode_any W (some ⟨b, o + 64 * x.1, none⟩) (c - 64 * x.1) 64 (chk l x.1) (chk_bts hbl (by have := HN.out; omega)) hcl.symm (by omega))
    have HP := Lib.hid hp
    have HB := Lib.hid hB
    have HBN := Lib.hid hbn
    have HB2 := Lib.hid hb2
    have HB3 := Lib.hid hb3
    have HV := Lib.hid hv
    have HROW := Lib.hid hrow
    have hd1 : 1 ≤ 3 - 1 - 1 := by omega
    clear hp hbl hcl hB hbn hb2 hb3 hv hrow
    cases hd : dec (chk l x.1) with
    | none =>
      have HNO := Lib.hid hd
      rw [hd] at HD
      simp only [gv, ev] at HD
      clear hd
      gi_wp2_with fail
      refine ⟨trivial, ?_⟩
      refine (CallsIn.inRound lp (callsIn_wide.2 HD.out)).mono ?_
      rintro e w3 ⟨rfl, hb⟩
      have hba := hb.alloc hb.size (.cells #[.string ⟨#[]⟩, .int .i64 0] 23)
      have hx2 : Boxed (w3.alloc (.cells #[.string ⟨#[]⟩, .int .i64 0] 23)) w.heap.size 26 (.slice none 0 0) := (hba.block _ HB2.out.lt).trans HB2.out
      have hx3 : Boxed (w3.alloc (.cells #[.string ⟨#[]⟩, .int .i64 0] 23)) (w.heap.size + 1) 30 (.int .i64 0) := (hba.block _ HB3.out.lt).trans HB3.out
      have HX2 := Lib.hid hx2
      have HX3 := Lib.hid hx3
      have HKB := Lib.hid (keeps_below (B := W0.heap.size) hba)
      have HBB := Lib.hid (HB.out.trans (hba.mono HB.out.size))
      have hc2 := hx2.cell
      have hf2 := hx2.frozen
      have hc3 := hx3.cell
      have hf3 := hx3.frozen
      clear hb hba hx2 hx3
      gi_wp2
      exact ⟨HKB.out.trans (((KeepsOthers.setCell _ _ _).from _).trans ((KeepsOthers.setCell _ _ _).from _)),
        ⟨rfl, x, by simp, HNO.out⟩, (HX2.out.set _).other (by omega) _, (HX3.out.other (by omega) _).set _,
        (HBB.out.setCell (p := ⟨w.heap.size, 0, none⟩) (Nat.le_refl _) _).setCell (p := ⟨w.heap.size + 1, 0, none⟩) (by simp) _⟩
    | some p =>
      obtain ⟨nm, k⟩ := p
      have HNO := Lib.hid hd
      have HDS := Lib.hid (dso_snoc l pre x hd)
      rw [hd] at HD
      simp only [gv, ev] at HD
      clear hd
      have HE := Lib.hid (ens_snoc (dso l pre) (nm, k))
      generalize Crc.str nm = T at *
      gi_wp2_with fail
      refine ⟨trivial, ?_⟩
      refine (CallsIn.inRound lp (callsIn_wide.2 HD.out)).mono ?_
      rintro e w3 ⟨rfl, hb⟩
      have hba := hb.alloc hb.size (.cells #[.string T, .int .i64 (k : Int)] 23)
      have HX2 := Lib.hid (show Boxed (w3.alloc (.cells #[.string T, .int .i64 (k : Int)] 23)) w.heap.size 26 (.slice none 0 0) from (hba.block _ HB2.out.lt).trans HB2.out)
      have HX3 := Lib.hid (show Boxed (w3.alloc (.cells #[.string T, .int .i64 (k : Int)] 23)) (w.heap.size + 1) 30 (.int .i64 0) from (hba.block _ HB3.out.lt).trans HB3.out)
      have hx4 : Boxed (w3.alloc (.cells #[.string T, .int .i64 (k : Int)] 23)) w2.heap.size 26 v := (hba.block _ HV.out.lt).trans HV.out
      have HX4 := Lib.hid hx4
      have HXN := Lib.hid (show Boxed (w3.alloc (.cells #[.string T, .int .i64 (k : Int)] 23)) (w2.heap.size + 1) 29 (.slice (some ⟨b, o, none⟩) (64 * n) c) from (hba.block _ HBN.out.lt).trans HBN.out)
      have HKB := Lib.hid (keeps_below (B := W0.heap.size) hba)
      have HBB := Lib.hid (HB.out.trans (hba.mono HB.out.size))
      have HRW4 := Lib.hid (own_keep HROW.out hba)
      have HOWN := Lib.hid ((own_keep HROW.out hba).alloc (.cells #[.string T, .int .i64 (k : Int)] 23))
      have HCT := Lib.hid (cells_two_new (w3.alloc (.cells #[.string T, .int .i64 (k : Int)] 23)) (.string T) (.int .i64 (k : Int)) 23)
      rw [World.size_alloc] at HCT
      have hc4 := hx4.cell
      have hpl2 : pre.length ≤ 1000 := by omega
      clear hb hba hx4
      gi_wp2_with (gi_at_builtin
                   refine wpListIn_append_own _ rfl _ _ 26 rfl w.heap.size 23 i0 (.agg #[.string ⟨#[]⟩, .int .i64 0]) 2 24 Try.underlying26 hi0 hz0 hz1 hz2 rfl (by decide) v pre.length (ecells (ens (dso l pre))) rfl HOWN.out ⟨w3.heap.size + 1, 0, none⟩ 1 1 [.string T, .int .i64 (k : Int)] rfl rfl HCT.out (by simp [Value.oneCell']) (by unfold maxLen; omega) (by omega) (by have := HBB.out.size; simp at this ⊢; omega) ?_
                   intro v' w5 hown5 hgr5 _
                   obtain ⟨g', cap', rfl⟩ := ownsRow_succ hown5
                   obtain ⟨hv1, hv2, hr2, hk2, hb5⟩ := HX4.out.appended (by decide) HRW4.out (HBB.out.size) hle4 hown5 hgr5
                   have HV2 := Lib.hid hv2
                   have HR2 := Lib.hid hr2
                   have HK2 := Lib.hid hk2
                   have HB5 := Lib.hid hb5
                   have HGR5 := Lib.hid hgr5
                   have hc1 := hv1.cell
                   have hf1 := hv1.frozen
                   clear hv1 hv2 hr2 hk2 hb5 hown5 hgr5)
      have hyn := ((HXN.out.alloc _).kept HGR5.out (HXN.out.not_row (by decide) HRW4.out)).other (B' := w2.heap.size) (by omega) (.slice (some ⟨g', 0, none⟩) (pre.length + 1) cap')
      have hy2 := ((HX2.out.alloc _).kept HGR5.out (HX2.out.not_row (by decide) HRW4.out)).other (B' := w2.heap.size) (by omega) (.slice (some ⟨g', 0, none⟩) (pre.length + 1) cap')
      have hy3 := ((HX3.out.alloc _).kept HGR5.out (HX3.out.not_row (by decide) HRW4.out)).other (B' := w2.heap.size) (by omega) (.slice (some ⟨g', 0, none⟩) (pre.length + 1) cap')
      refine ⟨HKB.out.trans (HK2.out.from _), Eq.trans hyn HBN.out.symm, hyn, fun y hy => ?_, hy2, hy3, ⟨_, HV2.out, ?_, trivial⟩, HBB.out.trans HB5.out⟩
      · rcases List.mem_append.1 hy with h1 | h1
        · exact HP.out y h1
        · obtain rfl : y = x := by simpa using h1
          exact ⟨_, HNO.out⟩
      · rw [HDS.out, HE.out, ecells_snoc, List.length_append]
        exact HR2.out
  case done =>
    rintro D ys W hD rfl ⟨hbn, hp, hb2, hb3, ⟨v, hv, hrow, -⟩, hB⟩ hK
    rw [List.length_finRange] at hrow
    have hdc := dso_decs (l := l) (n := n) hp
    have hdl : (dso l (List.finRange n)).length = n := by unfold dso; rw [List.length_map, List.length_finRange]
    have HLE := Lib.hid (show l.length = 64 * (dso l (List.finRange n)).length by rw [hdl, HN.out])
    obtain ⟨G, gc, rfl⟩ := row_slice2 hrow
    have HDC := Lib.hid hdc
    have HDL := Lib.hid hdl
    have HAL := Lib.hid (alike_any W G gc n (ens (dso l (List.finRange n))) (own_es hrow hdc.size (by omega)) (by rw [ens_len, hdl]))
    have HB := Lib.hid hB
    have HB2 := Lib.hid hb2
    have HB3 := Lib.hid hb3
    have HV := Lib.hid hv
    have HROW := Lib.hid hrow
    have HK := Lib.hid hK
    have hDB : w.heap.size + 1 + 1 ≤ D := by have := HS0.out; omega
    have hc4 := hv.cell
    clear hdc hdl hp hbn hB hb2 hb3 hv hrow hK
    generalize dso l (List.finRange n) = ds at *
    gi_wp2_with fail
    refine ⟨trivial, ?_⟩
    refine (callsIn_wide.2 HAL.out).mono ?_
    rintro e w4 ⟨rfl, hb⟩
    have hx2 : Boxed w4 w.heap.size 26 (.slice none 0 0) := (hb.block _ HB2.out.lt).trans HB2.out
    have hx3 : Boxed w4 (w.heap.size + 1) 30 (.int .i64 0) := (hb.block _ HB3.out.lt).trans HB3.out
    have hx4 : Boxed w4 w2.heap.size 26 (.slice G n gc) := (hb.block _ HV.out.lt).trans HV.out
    have HK4 := Lib.hid (show w4.heap[D]? = some (.deferred (some [])) from (hb.block _ (Array.getElem?_eq_some_iff.1 HK.out).1).trans HK.out)
    have HR4 := Lib.hid (own_keep HROW.out hb)
    have HB4 := Lib.hid (HB.out.trans (hb.mono HB.out.size))
    have HX2 := Lib.hid hx2
    have HX3 := Lib.hid hx3
    have hd2 := hx2.cell
    have hf2 := hx2.frozen
    have hd3 := hx3.cell
    have hf3 := hx3.frozen
    have hd4 := hx4.cell
    clear hb hx2 hx3 hx4 hc4 HAL HROW HK HB
    by_cases hnd : (nms (ens ds)).Nodup
    · rw [twice_no hnd]
      have HOK := Lib.hid (alls_some ⟨HLE.out, HDC.out, hnd⟩)
      clear hnd
      gi_wp2
      have hk1 := (KeepsOthers.setCell (w4.setCell ⟨w.heap.size, 0, none⟩ (.slice G n gc)) ⟨w.heap.size + 1, 0, none⟩ (.int .i64 0)).same D _ ((KeepsOthers.setCell w4 ⟨w.heap.size, 0, none⟩ (.slice G n gc)).same D _ HK4.out rfl) rfl
      refine ⟨by simp, .inl ⟨_, _, rfl, run_takeDeferred hk1, ?_⟩⟩
      have hy2 := ((HX2.out.set (.slice G n gc)).other (B' := w.heap.size + 1) (by omega) (.int .i64 0)).kept (grownBy_putObj' _ D (.deferred none)) (by simp; omega)
      have hy3 := ((HX3.out.other (B' := w.heap.size) (by omega) (.slice G n gc)).set (.int .i64 0)).kept (grownBy_putObj' _ D (.deferred none)) (by simp; omega)
      have hr1 := HR4.out.kept (grownBy_setCell' w4 w.heap.size (.slice G n gc)) (.inr (HX2.out.not_row (by decide) HR4.out).symm)
      have hr2 := hr1.kept (grownBy_setCell' _ (w.heap.size + 1) (.int .i64 0)) (.inr ((HX3.out.other (B' := w.heap.size) (by omega) (.slice G n gc)).not_row (by decide) hr1).symm)
      have hr3 := ownsRow_putObj hr2 (.deferred none) hk1 rfl
      have he3 := own_es hr3 HDC.out.size (by omega)
      have hbb := ((HB4.out.setCell (p := ⟨w.heap.size, 0, none⟩) (Nat.le_refl _) (.slice G n gc)).setCell (p := ⟨w.heap.size + 1, 0, none⟩) (by simp) (.int .i64 0)).trans (belowK_b (w := w) (Nat.le_refl _) _ D _ (.deferred none) (by omega) hk1 rfl rfl)
      have hq2 := hy2.cell
      have hq3 := hy3.cell
      refine ⟨.tuple #[.slice G n gc, .int .i64 0], ?_, AllTo.some HOK.out (by rw [HDL.out]) he3 hbb⟩
      simp [results, Try.results18, go_sem, hq2, hq3]
    · rw [twice_yes hnd]
      have HNO := Lib.hid (none_twice HDC.out HLE.out hnd)
      clear hnd
      gi_wp2
      have hk1 := (KeepsOthers.setCell (w4.setCell ⟨w.heap.size, 0, none⟩ (.slice none 0 0)) ⟨w.heap.size + 1, 0, none⟩ (.int .i64 2)).same D _ ((KeepsOthers.setCell w4 ⟨w.heap.size, 0, none⟩ (.slice none 0 0)).same D _ HK4.out rfl) rfl
      refine ⟨by simp, .inl ⟨_, _, rfl, run_takeDeferred hk1, ?_⟩⟩
      have hy2 := ((HX2.out.set (.slice none 0 0)).other (B' := w.heap.size + 1) (by omega) (.int .i64 2)).kept (grownBy_putObj' _ D (.deferred none)) (by simp; omega)
      have hy3 := ((HX3.out.other (B' := w.heap.size) (by omega) (.slice none 0 0)).set (.int .i64 2)).kept (grownBy_putObj' _ D (.deferred none)) (by simp; omega)
      have hbb := ((HB4.out.setCell (p := ⟨w.heap.size, 0, none⟩) (Nat.le_refl _) (.slice none 0 0)).setCell (p := ⟨w.heap.size + 1, 0, none⟩) (by simp) (.int .i64 2)).trans (belowK_b (w := w) (Nat.le_refl _) _ D _ (.deferred none) (by omega) hk1 rfl rfl)
      have hq2 := hy2.cell
      have hq3 := hy3.cell
      refine ⟨.tuple #[.slice none 0 0, .int .i64 2], ?_, AllTo.none HNO.out rfl hbb⟩
      simp [results, Try.results18, go_sem, hq2, hq3]
  case stop =>
    rintro D cd pre W hD hpre ⟨⟨rfl, x, hx, hno⟩, hb2, hb3, hB⟩ hK
    have hDB : w.heap.size + 1 + 1 ≤ D := by have := HS0.out; omega
    have HNO := Lib.hid (none_chunk (b := l) (m := x.1) (by have := HN.out; have := x.2; omega) hno)
    gi_wp2
    refine ⟨by simp, .inl ⟨_, _, rfl, run_takeDeferred hK, ?_⟩⟩
    have hq2 := (hb2.kept (grownBy_putObj' _ D (.deferred none)) (by simp; omega)).cell
    have hq3 := (hb3.kept (grownBy_putObj' _ D (.deferred none)) (by simp; omega)).cell
    refine ⟨.tuple #[.slice none 0 0, .int .i64 2], ?_, AllTo.none HNO.out rfl (hB.trans (belowK_b (w := w) (Nat.le_refl _) _ D _ (.deferred none) (by omega) hK rfl rfl))⟩
    simp [results, Try.results18, go_sem, hq2, hq3]

theorem all_any (w : World) (A : Option Addr) (n c : Nat) (l : List Nat) (h : Crc.Bts w A l) (hn : n = l.length) (hc : n ≤ c) (h1000 : n ≤ 64000) : Calls Try.prog 18 #[.slice A n c] w (AllTo w l) := by
  by_cases h64 : n % 64 = 0
  · obtain ⟨k, rfl⟩ : ∃ k, n = 64 * k := ⟨n / 64, by omega⟩
    by_cases h0 : 0 < k
    · obtain ⟨b, o, e, _⟩ := h.at' 0 (by omega)
      exact all_core w A b o k c l h hn (fun _ => e) hc (by omega)
    · exact all_core w A 0 0 k c l h hn (fun h => absurd h h0) hc (by omega)
  · exact all_len w A n c l hn (by omega) h64
end Ent
end Go.Proofs.Ytdgbpnchkgdmmaa
