/- Rows of entries that grow; the law's refs; the document's Twice. -/
import Derived.Test.YtdgbpnchkgdmmaaEntJoin
namespace Go.Proofs.Ytdgbpnchkgdmmaa
open Go.RowKit Go.MapKept
namespace Ent

/-- entries as cells -/
def ecells (l : List En) : List Value := l.flatMap fun e => [.string e.1, .int .i64 e.2]
theorem ecells_get {l : List En} : ∀ {j : Nat} (h : j < l.length), (ecells l)[j * 2]? = some (.string l[j].1) ∧ (ecells l)[j * 2 + 1]? = some (.int .i64 l[j].2) := by
  induction l with
  | nil => intro j h; simp at h
  | cons f l ih =>
    intro j h
    cases j with
    | zero => exact ⟨rfl, rfl⟩
    | succ j =>
      have := ih (j := j) (by simpa using h)
      have e : (j + 1) * 2 = j * 2 + 1 + 1 := by omega
      rw [e]
      simpa [ecells] using this
theorem ecells_len (l : List En) : (ecells l).length = l.length * 2 := by
  induction l with
  | nil => rfl
  | cons f l ih => simp only [ecells, List.flatMap_cons, List.length_append, List.length_cons, List.length_nil] at *; omega
theorem ecells_snoc (l : List En) (e : En) : ecells (l ++ [e]) = ecells l ++ [.string e.1, .int .i64 e.2] := by
  unfold ecells
  rw [List.flatMap_append]
  simp
theorem own_es {W : World} {B n c : Nat} {t : TypeId} {G : Option Addr} {l : List En} (h : W.ownsRow B t 2 (.slice G n c) n (ecells l)) (hs : ∀ e ∈ l, e.1.size ≤ 9223372036854775807) (hm : n ≤ 9223372036854775807) : Es W G l := by
  have hl : l.length = n := by
    have := h.1
    rw [ecells_len] at this
    omega
  refine ⟨hs, by omega, fun j hj => ?_⟩
  obtain ⟨f0, f1⟩ := ecells_get hj
  rcases h.2 with ⟨e, h0⟩ | ⟨g, cap, cur, e, _, hh, _, _, _, ht⟩
  · omega
  · injection e with e
    subst e
    have key : ∀ i, i < n * 2 → W.cell? ⟨g, 0 + i, none⟩ = (ecells l)[i]? := fun i hi => by
      have := congrArg (·[i]?) ht
      rw [List.getElem?_take, if_pos hi] at this
      unfold World.cell?
      rw [hh, Nat.zero_add]
      simp only
      rw [← Array.getElem?_toList]
      exact this
    exact ⟨g, 0, rfl, (Array.getElem?_eq_some_iff.1 hh).1, (key _ (by omega)).trans f0, (key (j * 2 + 1) (by omega)).trans f1⟩
theorem row_slice2 {B n : Nat} {W : World} {e : TypeId} {v : Value} {xs : List Value} (h : W.ownsRow B e 2 v n xs) : ∃ G c, v = .slice G n c := by
  rcases h.2 with ⟨e, h0⟩ | ⟨g, cap, cur, e, _⟩
  · exact ⟨none, 0, by rw [e, h0]⟩
  · exact ⟨_, _, e⟩
theorem row_base_lt2 {w : World} {B : Nat} {e : TypeId} {n : Nat} {v : Value} {xs : List Value} (h : w.ownsRow B e 2 v n xs) {g : Nat} (hg : v.ownBlock = some g) : B ≤ g := (World.ownsRow.lt h g hg).1

theorem entry_info : (Try.prog.info? 23).map (fun i => (i.zero, i.size, i.bytes)) = some (some (.agg #[.string ⟨#[]⟩, .int .i64 0]), 2, 24) := by kernel_rfl
theorem ref_info : (Try.prog.info? 28).map (fun i => (i.zero, i.size, i.bytes)) = some (some (.agg #[.string ⟨#[]⟩, .int .i64 0]), 2, 24) := by kernel_rfl
theorem cells_two_new (w : World) (x y : Value) (t : TypeId) : ∀ j u, [x, y][j]? = some u → (w.alloc (.cells #[x, y] t)).cell? ((⟨w.heap.size, 0, none⟩ : Addr).add j) = some u := by
  intro j u hj
  match j, hj with
  | 0, hj =>
    simp at hj
    subst hj
    simp [Addr.add]
  | 1, hj =>
    simp at hj
    subst hj
    simp [Addr.add]

/-- entries of the call's own -/
def GotE (t : TypeId) (w wr : World) (G : Option Addr) (n gc : Nat) (l : List En) : Prop := wr.ownsRow w.heap.size t 2 (.slice G n gc) n (ecells l) ∧ Below w.heap.size w wr

set_option maxHeartbeats 2000000 in
set_option maxRecDepth 100000 in
theorem refs_any (w : World) (A : Option Addr) (c : Nat) (l : List En) (h : Es w A l) (h1000 : l.length ≤ 1000) :
    Calls Try.prog 22 #[.slice A l.length c] w fun r w' => ∃ (G : Option Addr) (gc : Nat), r = .returned (.slice G l.length gc) ∧ Es w' G l ∧ Below w.heap.size w w' := by
  have H := Lib.hid h
  clear h
  obtain ⟨i0, hi0, hz0, hz1, hz2⟩ := info_parts ref_info
  go_enter Try.func22, Try.ntmps22
  go_wp2
  go_loopw [3, 8] (fun v i wr => ∃ (m : Nat) (G : Option Addr) (gc : Nat), m ≤ l.length ∧ i = .int .i64 (m : Int) ∧ v = .slice G m gc ∧ GotE 28 w wr G m gc (l.take m)) (fun _ i _ => l.length - (intOf i).toNat)
  case atStart => exact ⟨0, none, 0, Nat.zero_le _, rfl, rfl, ⟨by rw [List.take_zero]; rfl, .inl ⟨rfl, rfl⟩⟩, Below.refl _ _⟩
  case round =>
    obtain ⟨m, G, gc, hm, rfl, rfl, hgot⟩ := hrel
    by_cases hlt : m < l.length
    · obtain ⟨b, o, rfl, hbb, hc0, hc1⟩ := H.out.at' m hlt
      have hc0 := (hgot.2.cell (p := ⟨b, o + m * 2, none⟩) hbb).trans hc0
      have hc1 := (hgot.2.cell (p := ⟨b, o + m * 2 + 1, none⟩) hbb).trans hc1
      have HTK := Lib.hid (show l.take (m + 1) = l.take m ++ [l[m]] from List.take_succ_eq_append_getElem hlt)
      have HG := Lib.hid hgot
      clear hgot
      generalize l[m] = e at *
      obtain ⟨s, i⟩ := e
      simp only at hc0 hc1
      have HOWN := Lib.hid ((HG.out.1.alloc (.cells #[.string s, .int .i64 i] 23)).alloc (.cells #[.string s, .int .i64 i] 28))
      have HB2 := Lib.hid ((HG.out.2.alloc HG.out.2.size (.cells #[.string s, .int .i64 i] 23)).alloc (by have := HG.out.2.size; simp; omega) (.cells #[.string s, .int .i64 i] 28))
      have HCT := Lib.hid (cells_two_new (wr.alloc (.cells #[.string s, .int .i64 i] 23)) (.string s) (.int .i64 i) 28)
      rw [World.size_alloc] at HCT
      go_wp2_with (at_builtin; refine wpList_append_own_at _ rfl (.tmp 12) (.tmp 14) 43 rfl w.heap.size 28 i0 (.agg #[.string ⟨#[]⟩, .int .i64 0]) 2 24 Try.underlying43 hi0 hz0 hz1 hz2 rfl (by decide) (.slice G m gc) m (ecells (l.take m)) rfl HOWN.out ⟨wr.heap.size + 1, 0, none⟩ 1 1 [.string s, .int .i64 i] rfl rfl HCT.out (by simp [Value.oneCell']) (by unfold maxLen; omega) (by omega) (by have := HB2.out.size; omega) ?_
                   intro v' w3 hown3 hgr3 _ _
                   obtain ⟨G', gc', rfl⟩ := row_slice2 hown3
                   have HO3 := Lib.hid hown3
                   have HG3 := Lib.hid hgr3
                   clear hown3 hgr3)
      refine ⟨⟨m + 1, G', gc', by omega, by go_num, rfl, ?_, ?_⟩, by simp [intOf]; omega⟩
      · rw [HTK.out, ecells_snoc]
        exact HO3.out
      · exact HB2.out.grown HG3.out HB2.out.size (fun k hk => row_base_lt2 HG.out.1 hk)
    · obtain rfl : m = l.length := by omega
      rw [List.take_length] at hgot
      have HE := Lib.hid (own_es hgot.1 H.out.size (by omega))
      have HB := Lib.hid hgot.2
      clear hgot
      go_wp2
      go_ret
      exact ⟨G, gc, rfl, HE.out, HB.out⟩

theorem not_nodup {l : List ByteArray} {i k : Nat} (hi : i < l.length) (hk : k < i) (e : l[i] = l[k]) : ¬ l.Nodup := by
  intro h
  have := List.pairwise_iff_getElem.1 h k i (by omega) hi hk
  exact this e.symm
theorem is_nodup {l : List ByteArray} (h : ∀ i (hi : i < l.length) k (hk : k < i), l[i] ≠ l[k]'(by omega)) : l.Nodup :=
  List.pairwise_iff_getElem.2 (fun a b _ hb hlt e => h b hb a hlt e.symm)

set_option maxHeartbeats 2000000 in
set_option maxRecDepth 100000 in
theorem refTwice_any (w : World) (A : Option Addr) (c n : Nat) (l : List En) (h : Es w A l) (hn : n = l.length) :
    Calls Try.prog 21 #[.slice A n c] w fun r w' => r = .returned (.bool (twice (nms l))) ∧ Below w.heap.size w w' := by
  subst hn
  have hn := h.len
  have H := Lib.hid h
  clear h
  go_enter Try.func21, Try.ntmps21
  go_wp2
  go_loopw [7] (fun i wr => ∃ m : Nat, m ≤ l.length ∧ i = .int .i64 (m : Int) ∧ Below w.heap.size w wr ∧ ∀ a (ha : a < l.length), a < m → ∀ k (hk : k < a), l[a].1 ≠ (l[k]'(by omega)).1) (fun i _ => l.length - (intOf i).toNat)
  case atStart => exact ⟨0, Nat.zero_le _, rfl, Below.refl _ _, fun a _ h => absurd h (by omega)⟩
  case round =>
    obtain ⟨m, hm, rfl, hb, hd⟩ := hrel
    have HD := Lib.hid hd
    have HB := Lib.hid hb
    clear hd hb
    by_cases hlt : m < l.length
    · go_wp2
      go_loopw [11] (fun i wr => ∃ j : Nat, j ≤ m ∧ i = .int .i64 (j : Int) ∧ Below w.heap.size w wr ∧ ∀ k (hk : k < m), k < j → l[m].1 ≠ (l[k]'(by omega)).1) (fun i _ => m - (intOf i).toNat)
      case atStart => exact ⟨0, Nat.zero_le _, rfl, HB.out, fun k _ h => absurd h (by omega)⟩
      case round =>
        obtain ⟨j, hj, rfl, hb, hd⟩ := hrel
        have HD2 := Lib.hid hd
        have HB2 := Lib.hid hb.drew
        by_cases hjl : j < m
        · have hjn : j < l.length := by omega
          obtain ⟨b, o, rfl, hbb, hc0, _⟩ := H.out.at' m hlt
          obtain ⟨b', o', e', _, hd0, _⟩ := H.out.at' j hjn
          injection e' with e'
          injection e' with e1 e2
          subst e1 e2
          have hc0 := (hb.cell (p := ⟨b, o + m * 2, none⟩) hbb).trans hc0
          have hd0 := (hb.cell (p := ⟨b, o + j * 2, none⟩) hbb).trans hd0
          have HNE := Lib.hid (fun (hne : l[m].1 ≠ l[j].1) => show ∀ k (hk : k < m), k < j + 1 → l[m].1 ≠ (l[k]'(by omega)).1 from fun k hk hkj => by
            rcases Nat.lt_or_ge k j with h1 | h1
            · exact hd k hk h1
            · obtain rfl : k = j := by omega
              exact hne)
          have HEQ := Lib.hid (fun (heq : l[m].1 = l[j].1) => twice_yes (not_nodup (l := nms l) (i := m) (k := j) (by rw [nms_len]; exact hlt) hjl (by simp only [nms, List.getElem_map]; exact heq)))
          clear hb hd
          generalize hsm : l[m].1 = s at *
          generalize hsj : l[j].1 = t at *
          by_cases hst : s = t
          · have HTW := Lib.hid (HEQ.out hst)
            clear HNE HEQ hsm
            subst hst
            clear hsj
            go_wp2
            go_region
            all_goals go_wp2
            all_goals go_ret
            all_goals exact ⟨by rw [HTW.out]; rfl, HB2.out⟩
          · have HN := Lib.hid (HNE.out hst)
            have hn1 : ¬ s.toList = t.toList := fun e => hst (tx_inj (by rw [tx_toList, tx_toList, e]))
            have hn2 : (s.toList == t.toList) = false := by simpa using hn1
            clear HNE HEQ hsm hsj hst
            go_wp2
            go_region
            all_goals go_wp2
            all_goals exact ⟨⟨j + 1, by omega, by go_num, HB2.out, HN.out⟩, by simp [intOf]; omega⟩
        · obtain rfl : j = m := by omega
          have HB3 := Lib.hid hb
          clear hb hd
          have HN := Lib.hid (show ∀ a (ha : a < l.length), a < j + 1 → ∀ k (hk : k < a), l[a].1 ≠ (l[k]'(by omega)).1 from fun a ha haj k hk => by
            rcases Nat.lt_or_ge a j with h1 | h1
            · exact HD.out a ha h1 k hk
            · obtain rfl : a = j := by omega
              exact HD2.out k hk hk)
          go_wp2
          exact ⟨⟨j + 1, by omega, by go_num, HB3.out, HN.out⟩, by simp [intOf]; omega⟩
    · obtain rfl : m = l.length := by omega
      have HTW := Lib.hid (twice_no (is_nodup (l := nms l) (fun i hi k hk => by
        rw [nms_len] at hi
        simp only [nms, List.getElem_map]
        exact HD.out i hi hi k hk)))
      go_wp2
      go_ret
      exact ⟨by rw [HTW.out]; rfl, HB.out⟩
end Ent
end Go.Proofs.Ytdgbpnchkgdmmaa
