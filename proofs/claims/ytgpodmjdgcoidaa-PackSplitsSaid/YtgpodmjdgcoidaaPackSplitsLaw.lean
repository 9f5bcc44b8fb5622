/- PackSplits, walked. -/
import Derived.Test.YtgpodmjdgcoidaaPackSplits
namespace Go.Proofs.Ytgpodmjdgcoidaa
open Go.RowKit Go.MapKept
namespace Pack

theorem split_spl {w : World} (x : Nat) (hx : x < 18446744073709551616) (A : Option Addr) (c : Nat) (l : List Int) (h : Nts w A l) :
    Calls Try.prog 10 #[.int .u64 (x : Int), .slice A l.length c] w (Spl w x l) := split_any x hx A c l h

/-- fields as cells -/
def fcells (l : List Fld) : List Value := l.flatMap fun f => [.int .i64 f.n, .int .u64 (f.v : Int)]

theorem fcells_get {l : List Fld} : ∀ {j : Nat} (h : j < l.length), (fcells l)[j * 2]? = some (.int .i64 l[j].n) ∧ (fcells l)[j * 2 + 1]? = some (.int .u64 (l[j].v : Int)) := by
  induction l with
  | nil => intro j h; simp at h
  | cons f l ih =>
    intro j h
    cases j with
    | zero => exact ⟨rfl, rfl⟩
    | succ j =>
      have := ih (j := j) (by simpa using h)
      have e : (j + 1) * 2 = j * 2 + 1 + 1 := by omega
      rw [e]
      simpa [fcells] using this

theorem fcells_len (l : List Fld) : (fcells l).length = l.length * 2 := by
  induction l with
  | nil => rfl
  | cons f l ih => simp only [fcells, List.flatMap_cons, List.length_append, List.length_cons, List.length_nil] at *; omega

theorem fcells_step {l : List Fld} {m : Nat} (h : m < l.length) : fcells (l.take (m + 1)) = fcells (l.take m) ++ [.int .i64 l[m].n, .int .u64 (l[m].v : Int)] := by
  unfold fcells
  rw [List.take_succ_eq_append_getElem h, List.flatMap_append]
  simp

theorem own_fds {W : World} {B n c : Nat} {G : Option Addr} {l : List Fld} (h : W.ownsRow B 28 2 (.slice G n c) n (fcells l)) (hb : ∀ f ∈ l, -9223372036854775808 ≤ f.n ∧ f.n ≤ 9223372036854775807 ∧ f.v < 18446744073709551616) (hm : n ≤ 9223372036854775807) : Fds W G l := by
  have hl : l.length = n := by
    have := h.1
    rw [fcells_len] at this
    omega
  refine ⟨hb, by omega, fun j hj => ?_⟩
  obtain ⟨f0, f1⟩ := fcells_get hj
  rcases h.2 with ⟨e, h0⟩ | ⟨g, cap, cur, e, _, hh, _, _, _, ht⟩
  · omega
  · injection e with e
    subst e
    have key : ∀ i, i < n * 2 → W.cell? ⟨g, 0 + i, none⟩ = (fcells l)[i]? := fun i hi => by
      have := congrArg (·[i]?) ht
      rw [List.getElem?_take, if_pos hi] at this
      unfold World.cell?
      rw [hh, Nat.zero_add]
      simp only
      rw [← Array.getElem?_toList]
      exact this
    exact ⟨g, 0, rfl, (Array.getElem?_eq_some_iff.1 hh).1, (key _ (by omega)).trans f0, (key (j * 2 + 1) (by omega)).trans f1⟩

theorem field_info : (Try.prog.info? 28).map (fun i => (i.zero, i.size, i.bytes)) = some (some (.agg #[.int .i64 0, .int .u64 0]), 2, 16) := by kernel_rfl

theorem cells_two_new (w : World) (x y : Value) (t : TypeId) : ∀ j u, [x, y][j]? = some u → (w.alloc (.cells #[x, y] t)).cell? ((⟨w.heap.size, 0, none⟩ : Addr).add j) = some u := by
  intro j u hj
  match j, hj with
  | 0, hj =>
    simp at hj
    subst hj
    simp [Addr.add]
  | 1, hj =>
    simp at hj
    subst hj
    simp [Addr.add]

section
variable {w : World}
set_option maxHeartbeats 3200000 in
set_option maxRecDepth 100000 in
theorem splits_any (x : Nat) (hx : x < 18446744073709551616) (A : Option Addr) (c : Nat) (l : List Int) (h : Nts w A l) :
    Calls Try.prog 4 #[.int .u64 (x : Int), .slice A l.length c] w fun r w' => r = .returned (.bool true) ∧ Below w.heap.size w w' := by
  have hlen := h.len
  have H := Lib.hid h
  clear h
  have HL := Lib.hid (fun W => lives_any W)
  by_cases h70 : l.length ≤ 70
  · go_enter Try.func4, Try.ntmps4
    go_wp2_with fail
    refine (HL.out _).mono ?_
    rintro e w1 ⟨rfl, hb⟩
    have H1 := Lib.hid (H.out.keep hb)
    have HB := Lib.hid hb
    clear hb H
    go_wp2_with fail
    refine (split_spl x hx A c l H1.out).mono ?_
    rintro e w2 ⟨G, gc, rfl, hw2, hb2⟩
    have H2 := Lib.hid (H1.out.keep hb2)
    have HB2 := Lib.hid (HB.out.trans (hb2.mono HB.out.size))
    have HW2 := Lib.hid hw2
    clear hb2 hw2 H1 HB
    go_wp2_with fail
    refine (refSplit_any x hx A c l H2.out).mono ?_
    rintro e w3 ⟨G3, c3, rfl, hw3, hb3⟩
    have H3 := Lib.hid (H2.out.keep hb3)
    have HB3 := Lib.hid (HB2.out.trans (hb3.mono HB2.out.size))
    have HSM := Lib.hid (same_any G G3 gc c3 _ _ (HW2.out.keep hb3) hw3)
    have HW3 := Lib.hid (HW2.out.keep hb3)
    clear hb3 hw3 H2 HB2 HW2
    cases hs : split x l with
    | none =>
      rw [hs] at HSM
      simp only [Option.getD_none, Option.isSome_none] at HSM ⊢
      go_wp2_with fail
      refine HSM.out.mono ?_
      rintro e w4 ⟨rfl, k, rfl⟩
      go_wp2
      go_ret
      exact ⟨rfl, below_drewN HB3.out k⟩
    | some got =>
      rw [hs] at HSM HW3
      simp only [Option.getD_some, Option.isSome_some] at HSM HW3 ⊢
      obtain ⟨t, htot, rfl, hlt0⟩ : ∃ t, tot 0 l = some t ∧ got = sp x l ∧ x < 2 ^ t := by
        unfold split at hs
        split at hs
        · cases hs
        · rename_i t ht
          split at hs
          · rename_i h0
            injection hs with hs
            exact ⟨t, ht, hs.symm, (Nat.div_eq_zero_iff_lt (Nat.two_pow_pos _)).1 h0⟩
          · cases hs
      have HPK := Lib.hid (show pk 0 0 (flds l (sp x l)) = some (x, t) by
        have := split_pk (y := 0) htot (z := x) (by simpa using hlt0)
        simpa using this)
      clear hs htot hlt0
      have hfl : (flds l (sp x l)).length = l.length := flds_len _ _ (sp_len l x).symm
      have hget := flds_get l (sp x l)
      have hspl := sp_len l x
      rw [hspl] at HSM ⊢
      go_wp2_with fail
      refine HSM.out.mono ?_
      rintro e w4 ⟨rfl, k, rfl⟩
      have hfb : ∀ f ∈ flds l (sp x l), -9223372036854775808 ≤ f.n ∧ f.n ≤ 9223372036854775807 ∧ f.v < 18446744073709551616 := fun f hf => by
        obtain ⟨i, hi, rfl⟩ := List.getElem_of_mem hf
        rw [hfl] at hi
        rw [hget i (by omega) hi (by omega)]
        have h1 := H3.out.i64 _ (List.getElem_mem hi)
        exact ⟨h1.1, h1.2, Nat.lt_of_le_of_lt (sp_le _ _ _ (List.getElem_mem (by omega))) hx⟩
      have HFB := Lib.hid hfb
      have HG := Lib.hid hget
      have H4 := Lib.hid (H3.out.drewN k)
      have HW4 := Lib.hid (HW3.out.drewN k)
      have HB4 := Lib.hid (below_drewN HB3.out k)
      clear HSM H3 HW3 HB3 hfb hget
      generalize w3.drewN k = w4 at *
      generalize flds l (sp x l) = fs at *
      generalize sp x l = got at *
      go_wp2_with fail
      go_loopw [9, 47] (fun v i wr => ∃ (m : Nat) (F : Option Addr) (fc : Nat), m ≤ l.length ∧ i = .int .i64 (m : Int) ∧ v = .slice F m fc ∧ wr.ownsRow w4.heap.size 28 2 (.slice F m fc) m (fcells (fs.take m)) ∧ Below w4.heap.size w4 wr) (fun _ i _ => l.length - (intOf i).toNat)
      case atStart => exact ⟨0, none, 0, Nat.zero_le _, rfl, rfl, World.ownsRow_nil _ _ _ _, Below.refl _ _⟩
      case round =>
        obtain ⟨m, F, fc, hm, rfl, rfl, hown, hbel⟩ := hrel
        by_cases hlt : m < l.length
        · obtain ⟨b, o, rfl, hb, hcell⟩ := H4.out.at' m hlt
          obtain ⟨b2, o2, rfl, hb2, hcell2⟩ := HW4.out.at' m (by omega)
          have hca := (hbel.cell (p := ⟨b, o + m, none⟩) hb).trans hcell
          have hcb := (hbel.cell (p := ⟨b2, o2 + m, none⟩) hb2).trans hcell2
          have HF := Lib.hid (fcells_step (l := fs) (m := m) (by omega))
          rw [HG.out m (by omega) hlt (by omega)] at HF
          simp only at HF
          clear hcell hcell2
          generalize l[m] = n at *
          generalize got[m] = y at *
          obtain ⟨i1, hi1, hy0, hy1, hy2⟩ := info_parts field_info
          have hsz := hbel.size
          have HO := Lib.hid (hown.alloc (.cells #[.int .i64 n, .int .u64 (y : Int)] 28))
          have HB := Lib.hid (hbel.alloc hbel.size (.cells #[.int .i64 n, .int .u64 (y : Int)] 28))
          have HRW := Lib.hid hown
          clear hown hbel
          go_wp2_with (at_builtin
                       refine wpList_append_own_at _ rfl (.tmp 52) (.tmp 59) 22 rfl w4.heap.size 28 i1 (.agg #[.int .i64 0, .int .u64 0]) 2 16 Try.underlying22 hi1 hy0 hy1 hy2 rfl (by decide) (.slice F m fc) m (fcells (fs.take m)) rfl HO.out ⟨wr.heap.size, 0, none⟩ 1 1 [.int .i64 n, .int .u64 (y : Int)] rfl rfl (cells_two_new _ _ _ _) (by simp [Value.oneCell']) (by unfold maxLen; omega) (by omega) (by simp; omega) ?_
                       intro v' w5 hown5 hgr5 _ hat5
                       obtain ⟨F5, c5, rfl⟩ := row_slice hown5
                       have HO5 := Lib.hid hown5
                       have HB5 := Lib.hid (HB.out.grown hgr5 (by simp; omega) (fun k hk => row_base_lt HRW.out hk))
                       clear hown5 hgr5 hat5)
          refine ⟨⟨m + 1, F5, c5, by omega, by go_num, rfl, ?_, HB5.out⟩, by simp [intOf]; omega⟩
          rw [HF.out]
          exact HO5.out
        · obtain rfl : m = l.length := by omega
          rw [List.take_of_length_le (by omega)] at hown
          have hpk := pack_any F fc fs (own_fds hown HFB.out hlen)
          rw [HPK.out, hfl] at hpk
          simp only [Option.map_some, Option.getD_some, Option.isSome_some] at hpk
          have HPC := Lib.hid hpk
          have HB5 := Lib.hid (HB4.out.trans (hbel.mono HB4.out.size))
          clear hown hbel hpk
          go_wp2_with fail
          refine HPC.out.mono ?_
          rintro e w6 ⟨rfl, hb6⟩
          have HB6 := Lib.hid (HB5.out.trans (hb6.mono HB5.out.size))
          clear hb6
          go_wp2
          go_ret
          exact ⟨rfl, HB6.out⟩
  · go_enter Try.func4, Try.ntmps4
    go_wp2_with fail
    refine (HL.out _).mono ?_
    rintro e w1 ⟨rfl, hb⟩
    have HB := Lib.hid hb
    clear hb
    go_wp2_with fail
    refine (HL.out _).mono ?_
    rintro e w2 ⟨rfl, hb2⟩
    have HB2 := Lib.hid hb2
    clear hb2
    go_wp2
    go_ret
    exact ⟨rfl, HB.out.trans (HB2.out.mono HB.out.size)⟩
end
end Pack
end Go.Proofs.Ytgpodmjdgcoidaa
